/- Have two made disks the same files? -/
import Derived.Shelf.SlicesG.Equal
import Derived.Test.YtaignkjcogmcjaaDFiles
import Derived.Test.YtaignkjcogmcjaaDCopy
import Derived.Test.YtaignkjcogmcjaaDPrefix
namespace Go.Proofs.Ytaignkjcogmcjaa
open Go.RowKit
open Go.Shelf (Ren)
open Go.Lib (byteCells byteCells_length)

def eqsL_ren : Go.Shelf.Ren := ⟨fun | 34 => 33 | n => n, fun | 25 => 55 | 26 => 9 | 4 => 4 | 3 => 3 | 0 => 0 | n => n, fun | n => n⟩
theorem eqsL : SlLaysN.n34 Try.prog eqsL_ren := {
  mixed := by kernel_rfl,
  f34 := ⟨Try.f33.name, by decide, Try.func33.trans (congrArg some (by kernel_rfl))⟩,
  t0 := Try.underlying0,
  a0 := Try.isAgg0,
  z0 := Try.sizeOf0,
  v0 := Try.zeroValue0,
  t3 := Try.underlying3,
  a3 := Try.isAgg3,
  z3 := Try.sizeOf3,
  v3 := Try.zeroValue3,
  t4 := Try.underlying4,
  a4 := Try.isAgg4,
  z4 := Try.sizeOf4,
  v4 := Try.zeroValue4,
  t25 := Try.underlying55,
  a25 := Try.isAgg55,
  z25 := Try.sizeOf55,
  v25 := Try.zeroValue55,
  t26 := Try.underlying9,
  a26 := Try.isAgg9,
  z26 := Try.sizeOf9,
  v26 := Try.zeroValue9 }

theorem eqsL_f : eqsL_ren.f 34 = 33 := rfl

theorem names_at {fs : List FileA} {j : Nat} {f : FileA} (h : fs[j]? = some f) : (names fs)[j]? = some (.string ⟨f.1.toArray⟩) := by
  unfold names
  rw [List.getElem?_map, h]
  rfl
theorem names_length (fs : List FileA) : (names fs).length = fs.length := by unfold names; simp

theorem eqNames {w : World} {B1 B2 : Nat} {v1 v2 : Value} {fs gs : List FileA} (h1 : w.ownsRow B1 9 1 v1 fs.length (names fs)) (h2 : w.ownsRow B2 9 1 v2 gs.length (names gs)) (he : gs.map (·.1) = fs.map (·.1)) (hl : fs.length ≤ 1099511627776) :
    Calls Try.prog 33 #[v1, v2] w fun e w' => e = .returned (.bool true) ∧ ∃ q, w' = w.drewN q := by
  have hlen : gs.length = fs.length := by have := congrArg List.length he; simpa using this
  have en : names gs = names fs := by
    have e : ∀ l : List FileA, names l = (l.map (·.1)).map Go.Proofs.encStr := fun l => by unfold names; rw [List.map_map]; rfl
    rw [e, e, he]
  rw [hlen, en] at h2
  by_cases h0 : fs.length = 0
  · have f2 : ∃ A c, v2 = .slice A 0 c := by
      rcases h2.2 with ⟨rfl, _⟩ | ⟨g, cap, cur, rfl, _⟩
      · exact ⟨none, 0, rfl⟩
      · exact ⟨_, cap, by rw [h0]⟩
    have f1 : ∃ A c, v1 = .slice A 0 c := by
      rcases h1.2 with ⟨rfl, _⟩ | ⟨g, cap, cur, rfl, _⟩
      · exact ⟨none, 0, rfl⟩
      · exact ⟨_, cap, by rw [h0]⟩
    obtain ⟨A1, c1, rfl⟩ := f1
    obtain ⟨A2, c2, rfl⟩ := f2
    refine (AnyG.slices_Equal_string_empty eqsL A1 A2 c1 0 c2 w (by decide)).mono fun e w' ⟨he, hw⟩ => ⟨he, 0, hw⟩
  · obtain ⟨g1, c1, rfl, _, _⟩ := World.ownsRow.form h1 (by omega)
    obtain ⟨g2, c2, rfl, _, _⟩ := World.ownsRow.form h2 (by omega)
    have hc : ∀ (B g c : Nat), w.ownsRow B 9 1 (.slice (some ⟨g, 0, none⟩) fs.length c) fs.length (names fs) → ∀ j, j < (fs.map fun f => (⟨f.1.toArray⟩ : ByteArray)).length → w.cell? ⟨g, 0 + j, none⟩ = some (.string ((fs.map fun f => (⟨f.1.toArray⟩ : ByteArray)).getD j ByteArray.empty)) := fun B g c h j hj => by
      rw [List.length_map] at hj
      rw [Nat.zero_add, World.ownsRow.cellAt h j (by omega), names_at (List.getElem?_eq_getElem hj), List.getD_eq_getElem?_getD, List.getElem?_map, List.getElem?_eq_getElem hj]
      rfl
    refine (AnyG.slices_Equal_string eqsL g1 0 fs.length c1 g2 0 fs.length c2 (fs.map fun f => ⟨f.1.toArray⟩) (fs.map fun f => ⟨f.1.toArray⟩) w (by simp) (by simp) (by omega) (by omega) (hc _ _ _ h1) (hc _ _ _ h2)).mono fun e w' ⟨he, hw⟩ => ⟨?_, hw⟩
    rw [he]; simp

theorem row_below {w w' : World} {base size n : Nat} {e : TypeId} {v : Value} {xs : List Value} (h : w.ownsRow base e size v n xs) (hb : Below w.heap.size w w') : w'.ownsRow base e size v n xs := by
  refine World.ownsRow.kept (row := none) h ⟨hb.os, hb.tape, hb.output, hb.size, fun k hk _ => hb.block k hk⟩ ?_
  cases v.ownBlock <;> simp

/-- All names can be. -/
def canAll (fs : List FileA) : Prop := ∀ f ∈ fs, canS f.1 = true
theorem canS_size {n : List UInt8} (h : canS n = true) : n.length ≤ 32 := by
  unfold canS at h
  simp only [Bool.and_eq_true, decide_eq_true_eq] at h
  omega
/-- The same files; the same of them synced, where that is asked. -/
def Same (sy : Bool) (fs gs : List FileA) : Prop := (gs.map fun f => (f.1, f.2.1)) = (fs.map fun f => (f.1, f.2.1)) ∧ (sy = true → gs = fs)
theorem Same.names {sy : Bool} {fs gs : List FileA} (h : Same sy fs gs) : gs.map (·.1) = fs.map (·.1) := by
  have := congrArg (List.map Prod.fst) h.1
  rw [List.map_map, List.map_map] at this
  exact this
theorem Same.look {sy : Bool} {fs gs : List FileA} (h : Same sy fs gs) {j : Nat} {f : FileA} (hf : fs[j]? = some f) : ∃ k, gs[j]? = some (f.1, f.2.1, k) ∧ (sy = true → k = f.2.2) := by
  have h1 := congrArg (fun l => l[j]?) h.1
  simp only [List.getElem?_map, hf, Option.map_some] at h1
  cases hg : gs[j]? with
  | none => rw [hg] at h1; cases h1
  | some g =>
    rw [hg] at h1
    simp only [Option.map_some, Option.some.injEq, Prod.mk.injEq] at h1
    refine ⟨g.2.2, ?_, fun hs => ?_⟩
    · obtain ⟨a, b, c⟩ := g
      simp only at h1
      rw [h1.1, h1.2]
    · have := h.2 hs
      rw [this, hf] at hg
      injection hg with hg
      rw [hg]

set_option maxRecDepth 100000 in
set_option maxHeartbeats 3200000 in
theorem alike_any {w : World} {ta tb : Nat → Option Tag} {da db : Nat} {ra rb : Int} {fs gs : List FileA} (ha : Holds w ta da ra fs) (hb : Holds w tb db rb gs) (sy : Bool) (hs : Same sy fs gs) (hc : canAll fs) :
    Calls Try.prog 32 #[.pointer (some ⟨da, 0, none⟩), .pointer (some ⟨db, 0, none⟩), .bool sy] w fun e w' => e = .returned (.bool true) ∧ Below w.heap.size w w' := by
  have HA := Lib.hid ha
  have HB := Lib.hid hb
  have HS := Lib.hid hs
  have HC := Lib.hid hc
  have HF1 := Lib.hid (files_made ha)
  have hfew := ha.few
  obtain ⟨n, hn⟩ : ∃ n, Hid (n = fs.length) := ⟨_, Lib.hid rfl⟩
  have hn64 : n ≤ 64 := by rw [hn.out]; exact hfew
  clear ha hb hs hc hfew
  go_enter Try.func32, Try.ntmps32
  go_wp2_with fail
  (with_reducible refine HF1.out.mono ?_); rintro e w1 ⟨v1, rfl, ho1, hb1⟩
  have HF2 := Lib.hid (files_made (HB.out.same hb1.size fun k hk => hb1.block k (HB.out.tags k hk)))
  have HO1 := Lib.hid ho1
  have HB1 := Lib.hid hb1
  clear ho1 hb1
  go_wp2_with fail
  (with_reducible refine HF2.out.mono ?_); rintro e w2 ⟨v2, rfl, ho2, hb2⟩
  have HE := Lib.hid (eqNames (row_below HO1.out hb2) ho2 HS.out.names (by rw [← hn.out]; omega))
  have HB2 := Lib.hid (HB1.out.trans (hb2.mono HB1.out.size))
  clear ho2 hb2
  go_wp2_with fail
  (with_reducible refine HE.out.mono ?_); rintro e w3 ⟨rfl, q, rfl⟩
  have HB3 := Lib.hid (below_drewN HB2.out q)
  have HF3 := Lib.hid (files_made (HA.out.same HB3.out.size fun k hk => HB3.out.block k (HA.out.tags k hk)))
  go_wp2_with fail
  (with_reducible refine HF3.out.mono ?_); rintro e w4 ⟨v4, rfl, ho4, hb4⟩
  have HB4 := Lib.hid (HB3.out.trans (hb4.mono HB3.out.size))
  rw [← hn.out] at ho4
  have hform : ∃ A c, v4 = .slice A n c ∧ n ≤ c := by
    rcases ho4.2 with ⟨rfl, h0⟩ | ⟨g, cap, cur, rfl, _, _, h5, _⟩
    · exact ⟨none, 0, by rw [h0], by omega⟩
    · exact ⟨_, cap, rfl, h5⟩
  obtain ⟨A4, c4, rfl, hc4⟩ := hform
  have HO4 := Lib.hid ho4
  clear ho4 hb4
  go_wp2
  go_loopw [36] (fun i wr => ∃ (k : Nat), k ≤ n ∧ i = .int .i64 k ∧ Below w4.heap.size w4 wr) (fun i _ => n - (intOf i).toNat)
  case atStart => exact ⟨0, Nat.zero_le _, rfl, Below.refl _ _⟩
  case round =>
    obtain ⟨k, hk, rfl, hbr⟩ := hrel
    have HBR := Lib.hid hbr
    clear hbr
    by_cases hlt : k < n
    · obtain ⟨g, c, e, _, hg⟩ := World.ownsRow.form HO4.out (by omega)
      injection e with e1 _ e3
      subst e1
      subst e3
      obtain ⟨f, hf⟩ : ∃ f, fs[k]? = some f := ⟨fs[k]'(by rw [← hn.out]; exact hlt), List.getElem?_eq_getElem _⟩
      obtain ⟨s, hs⟩ : ∃ s : ByteArray, Hid (s = ⟨f.1.toArray⟩) := ⟨_, Lib.hid rfl⟩
      have hsl : s.data.toList = f.1 := by rw [hs.out]
      have hq : wr.cell? ⟨g, k, none⟩ = some (.string s) := by
        refine (HBR.out.cell (p := ⟨g, k, none⟩) hg).trans ?_
        rw [World.ownsRow.cellAt HO4.out k (by omega), names_at hf, hs.out]
      have ead : (⟨g, 0, none⟩ : Addr).add k = ⟨g, k, none⟩ := by unfold Addr.add; split <;> simp_all
      obtain ⟨k2, hg2, hk2⟩ := HS.out.look hf
      have HK2 := Lib.hid hk2
      have hcan := HC.out f (List.mem_of_getElem? hf)
      have hsz : s.size ≤ 9223372036854775807 := by
        have h1 := canS_size hcan
        have h2 := slen s
        rw [hsl] at h2
        omega
      have HL1 : Hid (look fs s.data.toList = some f.2) := Lib.hid (by rw [hsl]; exact look_mem HA.out.rise (List.mem_of_getElem? hf))
      have HL2 : Hid (look gs s.data.toList = some (f.2.1, k2)) := Lib.hid (by rw [hsl]; exact look_mem (f := (f.1, f.2.1, k2)) HB.out.rise (List.mem_of_getElem? hg2))
      have HCN : Hid (canS s.data.toList = true) := Lib.hid (by rw [hsl]; exact hcan)
      have hbw : Below w.heap.size w wr := HB4.out.trans (HBR.out.mono HB4.out.size)
      have HA5 := Lib.hid (HA.out.same hbw.size fun i hi => hbw.block i (HA.out.tags i hi))
      have HB5 := Lib.hid (HB.out.same hbw.size fun i hi => hbw.block i (HB.out.tags i hi))
      have HR := Lib.hid (read_made HA5.out s hsz)
      clear hsl ead hg2 hk2 hcan hf hbw
      go_wp2_with fail
      (with_reducible refine HR.out.mono ?_); rintro e w5 ⟨hb5, (⟨hc5, rfl⟩ | ⟨hc5, hl5, rfl⟩ | ⟨hc5, x, p, hl5, rfl, ho5⟩)⟩
      · rw [HCN.out] at hc5; cases hc5
      · rw [HL1.out] at hl5; cases hl5
      obtain rfl : x = f.2 := by rw [HL1.out] at hl5; injection hl5 with hl5; exact hl5.symm
      have HR2 := Lib.hid (read_made (HB5.out.same hb5.size fun i hi => hb5.block i (HB5.out.tags i hi)) s hsz)
      have HP5 := Lib.hid ho5
      have HB55 := Lib.hid hb5
      clear hl5 hc5 ho5 hb5
      go_wp2_with fail
      (with_reducible refine HR2.out.mono ?_); rintro e w6 ⟨hb6, (⟨hc6, rfl⟩ | ⟨hc6, hl6, rfl⟩ | ⟨hc6, x, q6, hl6, rfl, ho6⟩)⟩
      · rw [HCN.out] at hc6; cases hc6
      · rw [HL2.out] at hl6; cases hl6
      obtain rfl : x = (f.2.1, k2) := by rw [HL2.out] at hl6; injection hl6 with hl6; exact hl6.symm
      have hb56 : Below wr.heap.size wr w6 := HB55.out.trans (hb6.mono HB55.out.size)
      have hS1 := size_made (HA5.out.same hb56.size fun i hi => hb56.block i (HA5.out.tags i hi)) s hsz
      rw [show sizeA fs s.data.toList = ((f.2.1.length : Int), (f.2.2 : Int), 0) from ans_here HCN.out HL1.out] at hS1
      have HS1 := Lib.hid hS1
      have HP6 := Lib.hid (HP5.out.below hb6)
      have HQ6 : Hid (Own w6 w5.heap.size q6 f.2.1) := Lib.hid ho6
      have HB6 := Lib.hid hb56
      clear hl6 hc6 ho6 hb6 hb56 hS1
      go_wp2_with fail
      (with_reducible refine HS1.out.mono ?_); rintro e w7 ⟨rfl, hb7⟩
      have hb67 : Below wr.heap.size wr w7 := HB6.out.trans (hb7.mono HB6.out.size)
      have hS2 := size_made (HB5.out.same hb67.size fun i hi => hb67.block i (HB5.out.tags i hi)) s hsz
      rw [show sizeA gs s.data.toList = ((f.2.1.length : Int), (k2 : Int), 0) from ans_here HCN.out HL2.out] at hS2
      have HS2 := Lib.hid hS2
      have HP7 := Lib.hid (HP6.out.below hb7)
      have HQ7 := Lib.hid (HQ6.out.below hb7)
      have HB7 := Lib.hid hb67
      clear hb7 hb67 hS2
      go_wp2_with fail
      (with_reducible refine HS2.out.mono ?_); rintro e w8 ⟨rfl, hb8⟩
      have hE := equalB_any p q6 f.2.1 f.2.1 _ _ _ _ w8 (HP7.out.below hb8).rd (HQ7.out.below hb8).rd
      rw [show (f.2.1 == f.2.1) = true by simp] at hE
      have HEE := Lib.hid hE
      have HB8 := Lib.hid (HB7.out.trans (hb8.mono HB7.out.size))
      clear hb8 hE
      have HBX : ∀ j, Hid (Below w4.heap.size w4 (w8.drewN j)) := fun j => Lib.hid (below_drewN (HBR.out.trans (HB8.out.mono HBR.out.size)) j)
      cases sy with
      | true =>
        have e2 : ((f.2.2 : Int) != (k2 : Int)) = false := by rw [HK2.out rfl]; simp
        have e3 : (f.2.2 != k2) = false := by rw [HK2.out rfl]; simp
        go_wp2_with fail
        (with_reducible refine HEE.out.mono ?_); rintro e w9 ⟨rfl, j, rfl⟩
        have HX := HBX j
        clear HBX
        go_wp2
        go_roundw
        case rel => exact ⟨k + 1, by omega, by go_num, HX.out⟩
        case measure => simp [intOf]; omega
      | false =>
        go_wp2_with fail
        (with_reducible refine HEE.out.mono ?_); rintro e w9 ⟨rfl, j, rfl⟩
        have HX := HBX j
        clear HBX
        go_wp2
        go_roundw
        case rel => exact ⟨k + 1, by omega, by go_num, HX.out⟩
        case measure => simp [intOf]; omega
    · obtain rfl : k = n := by omega
      go_wp2
      go_ret
      exact ⟨rfl, HB4.out.trans (HBR.out.mono HB4.out.size)⟩
end Go.Proofs.Ytaignkjcogmcjaa
