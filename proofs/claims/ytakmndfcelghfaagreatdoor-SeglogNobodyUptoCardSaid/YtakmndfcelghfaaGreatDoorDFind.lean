/- A made disk: is it made, may the names be, where is a file. -/
import Derived.Test.YtakmndfcelghfaaGreatDoorDHeap
import Derived.WalkSpells
namespace Go.Proofs.YtakmndfcelghfaaGreatDoor
open Go.RowKit
open Go.Lib (byteCells byteCells_length)

theorem Holds.cells {w : World} {tag : Nat → Option Tag} {d : Nat} {room : Int} {fs : List FileA} (h : Holds w tag d room fs) :
    ∃ m, w.cell? ⟨d, 0, none⟩ = some (.int .i64 room) ∧ w.cell? ⟨d, 1, none⟩ = some (.map (some m)) := by
  obtain ⟨m, bl, h1, _⟩ := h.struct
  have hr := fun i => cell_of_row w d i _ _ (0, 0) h1
  exact ⟨m, hr 0, hr 1⟩

set_option maxRecDepth 100000 in
theorem made_yes {w : World} {tag : Nat → Option Tag} {d : Nat} {room : Int} {fs : List FileA} (h : Holds w tag d room fs) :
    Calls Tryz.prog 122 #[.pointer (some ⟨d, 0, none⟩)] w fun e w' => e = .returned (.bool true) ∧ w = w' := by
  obtain ⟨m, h0, h1⟩ := h.cells
  have hm : ∀ w : World, (binOp .neq 40 (.map (some m)) (.map none)).run Tryz.prog w = .ok (.bool true) w := fun w => by kernel_rfl
  go_enter Tryz.func122, Tryz.ntmps122
  go_wp2
  go_ret
  exact ⟨rfl, rfl⟩

def allCan (ss : List ByteArray) : Bool := ss.all fun s => canS s.data.toList
/-- OK, or the error of a name. -/
def codeOf (b : Bool) : Int := if b then 0 else 6
theorem allCan_take {ss : List ByteArray} {k : Nat} (h : k < ss.length) (h0 : allCan (ss.take k) = true) (h1 : canS ss[k].data.toList = true) : allCan (ss.take (k + 1)) = true := by
  unfold allCan at *
  rw [List.take_succ_eq_append_getElem h, List.all_append, h0]
  simpa using h1
theorem allCan_not {ss : List ByteArray} {k : Nat} (h : k < ss.length) (h1 : canS ss[k].data.toList = false) : allCan ss = false := by
  unfold allCan
  rw [List.all_eq_false]
  exact ⟨ss[k], List.getElem_mem h, by simp [h1]⟩

set_option maxRecDepth 100000 in
set_option maxHeartbeats 800000 in
theorem check_made {w : World} {tag : Nat → Option Tag} {d : Nat} {room : Int} {fs : List FileA} (h : Holds w tag d room fs) (ss : List ByteArray) (A : Option Addr) (c : Nat) (hss : ∀ s ∈ ss, s.size ≤ 9223372036854775807) (n : Nat) (hnl : n = ss.length) (hn : n ≤ 1048576)
    (hA : ∀ (j : Nat) (hj : j < ss.length), ∃ g, A = some ⟨g, 0, none⟩ ∧ w.cell? ⟨g, j, none⟩ = some (.string ss[j])) :
    Calls Tryz.prog 126 #[.pointer (some ⟨d, 0, none⟩), .slice A n c] w fun e w' => e = .returned (.int .i64 (codeOf (allCan ss))) ∧ Below w.heap.size w w' := by
  have HM := Lib.hid (made_yes h)
  have HN := Lib.hid hnl
  have hnl1 : n ≤ ss.length := by omega
  have hnl2 : ss.length ≤ n := by omega
  clear hnl
  go_enter Tryz.func126, Tryz.ntmps126
  go_wp2_with fail
  (with_reducible refine HM.out.mono ?_); rintro e w' ⟨rfl, rfl⟩
  go_wp2_with fail
  go_loopw [12] (fun i wr => ∃ k : Nat, k ≤ n ∧ i = .int .i64 k ∧ allCan (ss.take k) = true ∧ Below w.heap.size w wr) (fun i _ => n - (intOf i).toNat)
  case atStart => exact ⟨0, Nat.zero_le _, rfl, rfl, Below.refl _ _⟩
  case round =>
    obtain ⟨k, hk, rfl, hok, hb⟩ := hrel
    have HOK := Lib.hid hok
    clear hok
    by_cases hltn : k < n
    · have hlt : k < ss.length := by omega
      obtain ⟨g, rfl, hc⟩ := hA k hlt
      have hlg : g < w.heap.size := World.block_lt_of_cell? w _ hc
      have hc' : wr.cell? ⟨g, k, none⟩ = some (.string ss[k]) := (hb.cell hlg).trans hc
      have e : (⟨g, 0, none⟩ : Addr).add k = ⟨g, k, none⟩ := by unfold Addr.add; split <;> simp_all
      have hcan := can_any ss[k] (hss _ (List.getElem_mem hlt)) wr
      clear hc e
      by_cases hb1 : canS ss[k].data.toList = true
      · rw [hb1] at hcan
        have HB := Lib.hid hb1
        have HC := Lib.hid hcan
        clear hb1 hcan
        go_wp2_with fail
        (with_reducible refine HC.out.mono ?_); rintro e w1 ⟨rfl, hb2⟩
        go_wp2
        go_roundw
        case rel => exact ⟨k + 1, by omega, by go_num, allCan_take hlt HOK.out HB.out, hb.trans (hb2.mono hb.size)⟩
        case measure => simp [intOf]; omega
      · have hb2 : canS ss[k].data.toList = false := by simpa using hb1
        rw [hb2] at hcan
        have HB := Lib.hid hb2
        have HC := Lib.hid hcan
        clear hb1 hb2 hcan
        go_wp2_with fail
        (with_reducible refine HC.out.mono ?_); rintro e w1 ⟨rfl, hb2⟩
        go_wp2
        go_ret
        exact ⟨ret_int (by rw [allCan_not hlt HB.out]; rfl), hb.trans (hb2.mono hb.size)⟩
    · obtain rfl : k = n := by omega
      go_wp2
      go_ret
      exact ⟨ret_int (by have := HOK.out; rw [List.take_of_length_le (by omega)] at this; rw [this]; rfl), hb⟩

/-- What find answers: the file's block, the error's number. -/
def FindPost (w : World) (tag : Nat → Option Tag) (d : Nat) (room : Int) (fs : List FileA) (s : ByteArray) (e : Ending) (w' : World) : Prop :=
  Below w.heap.size w w' ∧
  ((canS s.data.toList = false ∧ e = .returned (.tuple #[.pointer none, .int .i64 6])) ∨
   (canS s.data.toList = true ∧ look fs s.data.toList = none ∧ e = .returned (.tuple #[.pointer none, .int .i64 20])) ∨
   (canS s.data.toList = true ∧ ∃ m bl, w.heap[d]? = some (.cells #[.int .i64 room, .map (some m)] 42 (0, 0)) ∧ tag m = some .map ∧ w.ownsMap Tryz.prog 9 ptrElem m fs.length (mapD bl fs) ∧ (∀ f ∈ fs, FileAt w tag bl f) ∧
      (∃ x, look fs s.data.toList = some x) ∧ e = .returned (.tuple #[.pointer (some ⟨bl s.data.toList, 0, none⟩), .int .i64 0])))

theorem ptr_nil {v : Value} {ps : List MemPlace} (h : ptrElem v = some (.nil, ps)) : v = .pointer none := by
  rcases ptrElem_inv h with ⟨rfl, _⟩ | ⟨g, _, hz⟩
  · rfl
  · cases hz
theorem ptr_lit {v : Value} {g : Nat} {ps : List MemPlace} (h : ptrElem v = some (.lit (.int .i64 (g : Int)), ps)) : v = .pointer (some ⟨g, 0, none⟩) := by
  rcases ptrElem_inv h with ⟨_, hz⟩ | ⟨g', rfl, hz⟩
  · cases hz
  · have : (g : Int) = (g' : Int) := by
      have := congrArg Prod.fst hz
      simpa using this
    obtain rfl : g = g' := by omega
    rfl
theorem law9 : Maps.Keyed Tryz.prog 9 := Maps.Keyed.of_law (WideMaps.string_law Tryz.underlying9)
theorem zero80 (w : World) : (zeroValue 164).run Tryz.prog w = .ok (.pointer none) w := by kernel_rfl

set_option maxRecDepth 100000 in
set_option maxHeartbeats 800000 in
theorem find_made {w : World} {tag : Nat → Option Tag} {d : Nat} {room : Int} {fs : List FileA} (h : Holds w tag d room fs) (s : ByteArray) (hs : s.size ≤ 9223372036854775807) :
    Calls Tryz.prog 120 #[.pointer (some ⟨d, 0, none⟩), .string s] w (FindPost w tag d room fs s) := by
  have hb0 : Below w.heap.size w (w.alloc (.cells #[.string s] 9)) := (Below.refl _ _).alloc (Nat.le_refl _) _
  have h0 : Holds (w.alloc (.cells #[.string s] 9)) tag d room fs := h.same hb0.size fun k hk => hb0.block k (h.tags k hk)
  have hck := check_made h0 [s] (some ⟨w.heap.size, 0, none⟩) 1 (by simpa using hs) 1 rfl (by decide) (fun j hj => ⟨_, rfl, by
    obtain rfl : j = 0 := by simp at hj; exact hj
    exact World.cell?_alloc_at _ _ _ _ rfl⟩)
  have ha : allCan [s] = canS s.data.toList := by simp [allCan]
  by_cases hc : canS s.data.toList = true
  · rw [ha, hc, show codeOf true = 0 from rfl] at hck
    have HC := Lib.hid hck
    have HCS := Lib.hid hc
    obtain ⟨m, bl, g1, g2, g3, g4, g5⟩ := h.struct
    have G1 := Lib.hid g1
    clear ha hc hck g1
    have hh := mapD_has bl fs s.data.toList
    have hat := mapD_at bl fs s.data.toList .nil
    cases hl : look fs s.data.toList with
    | none =>
      rw [hl] at hh hat
      replace hh : Maps.has (mapD bl fs) (.string s.data.toList) = false := hh
      have HAT : Hid ((mapD bl fs).atKey (.string s.data.toList) .nil = .nil) := Lib.hid hat
      have HL := Lib.hid hl
      clear hat hl
      go_enter Tryz.func120, Tryz.ntmps120
      go_wp2_with fail
      (with_reducible refine HC.out.mono ?_); rintro e w1 ⟨rfl, hb1⟩
      have hb2 : Below w.heap.size w w1 := hb0.trans (hb1.mono hb0.size)
      have hw1 : w1.heap[d]? = some (.cells #[.int .i64 room, .map (some m)] 42 (0, 0)) := (hb2.block d (h.tags d (by rw [g2]; simp))).trans G1.out
      have c1 : w1.cell? ⟨d, 1, none⟩ = some (.map (some m)) := cell_of_row w1 d 1 _ _ (0, 0) hw1
      have g4' := owns_same g4 (hb2.block m (h.tags m (by rw [g3]; simp)))
      clear hw1
      go_wp2_with (at_lookup; refine wpList_lookup_own_ok _ rfl _ _ 40 rfl 9 164 law9 Tryz.underlying40 ptrElem (zero80 _) .nil [] rfl m fs.length _ rfl g4' _ _ rfl (WideMaps.keyOf_string_mk Tryz.underlying9 hs) ?_; intro v ps hv; rw [HAT.out] at hv; obtain rfl : v = .pointer none := ptr_nil hv; clear hv)
      go_ret2
      exact ⟨hb2, .inr (.inl ⟨HCS.out, HL.out, rfl⟩)⟩
    | some x =>
      rw [hl] at hh hat
      replace hh : Maps.has (mapD bl fs) (.string s.data.toList) = true := hh
      have HAT : Hid ((mapD bl fs).atKey (.string s.data.toList) .nil = .lit (.int .i64 (bl s.data.toList : Int))) := Lib.hid hat
      have HL := Lib.hid hl
      clear hat hl
      go_enter Tryz.func120, Tryz.ntmps120
      go_wp2_with fail
      (with_reducible refine HC.out.mono ?_); rintro e w1 ⟨rfl, hb1⟩
      have hb2 : Below w.heap.size w w1 := hb0.trans (hb1.mono hb0.size)
      have hw1 : w1.heap[d]? = some (.cells #[.int .i64 room, .map (some m)] 42 (0, 0)) := (hb2.block d (h.tags d (by rw [g2]; simp))).trans G1.out
      have c1 : w1.cell? ⟨d, 1, none⟩ = some (.map (some m)) := cell_of_row w1 d 1 _ _ (0, 0) hw1
      have g4' := owns_same g4 (hb2.block m (h.tags m (by rw [g3]; simp)))
      clear hw1
      go_wp2_with (at_lookup; refine wpList_lookup_own_ok _ rfl _ _ 40 rfl 9 164 law9 Tryz.underlying40 ptrElem (zero80 _) .nil [] rfl m fs.length _ rfl g4' _ _ rfl (WideMaps.keyOf_string_mk Tryz.underlying9 hs) ?_; intro v ps hv; rw [HAT.out] at hv; obtain rfl : v = .pointer (some ⟨bl s.data.toList, 0, none⟩) := ptr_lit hv; clear hv)
      go_ret2
      exact ⟨hb2, .inr (.inr ⟨HCS.out, m, bl, G1.out, g3, g4, g5, ⟨x, HL.out⟩, rfl⟩)⟩
  · have hc' : canS s.data.toList = false := by simpa using hc
    rw [ha, hc', show codeOf false = 6 from rfl] at hck
    have HC := Lib.hid hck
    have HCS := Lib.hid hc'
    clear ha hc hc' hck
    go_enter Tryz.func120, Tryz.ntmps120
    go_wp2_with fail
    (with_reducible refine HC.out.mono ?_); rintro e w1 ⟨rfl, hb1⟩
    go_wp2
    go_ret2
    exact ⟨hb0.trans (hb1.mono hb0.size), .inl ⟨HCS.out, rfl⟩⟩
end Go.Proofs.YtakmndfcelghfaaGreatDoor
