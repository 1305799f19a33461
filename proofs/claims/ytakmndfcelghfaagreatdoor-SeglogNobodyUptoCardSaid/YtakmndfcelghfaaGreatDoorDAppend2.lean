/- A made disk: Append of a new file, and the whole of Append. -/
import Derived.Test.YtakmndfcelghfaaGreatDoorDAppend
namespace Go.Proofs.YtakmndfcelghfaaGreatDoor
open Go.RowKit
open Go.Lib (byteCells byteCells_length)

section
variable {w : World} {tag : Nat → Option Tag} {d : Nat} {room : Int} {fs : List FileA}

/-- Behind the three writes of Append, of a new file. -/
theorem append_left2 {w5 w6 w8 : World} {m cc c1 g0 : Nat} {bl : List UInt8 → Nat} {n b : List UInt8} {A1 : Option Addr} (h5 : Holds w5 tag d room fs) (B5 : Below w.heap.size w w5) (hg0 : w.heap.size ≤ g0) (hn0 : tag g0 = none)
    (g1 : w5.heap[d]? = some (.cells #[.int .i64 room, .map (some m)] 42 (0, 0))) (g3 : tag m = some .map) (g8 : w8.ownsMap Tryz.prog 9 ptrElem m cc (mapD (upd bl n g0) (insF (n, b, 0) fs))) (g5 : ∀ f ∈ fs, FileAt w5 tag bl f)
    (hl : look fs n = none) (k0 : w5.heap[g0]? = some (.cells #[.slice none 0 0, .int .i64 0] 168 (0, 0)))
    (ho : Own w6 0 (.slice A1 b.length c1) b) (hg : w5.grownBy w6 none) (hat : (Value.slice A1 b.length c1).ownBlock = none ∨ (Value.slice A1 b.length c1).ownBlock = some w5.heap.size)
    (h8 : (w6.setCell ⟨g0, 0, none⟩ (.slice A1 b.length c1)).grownBy w8 (some m)) (hfit : (used fs : Int) + b.length ≤ room) (hfew : fs.length < 64) : Left w tag d room (insF (n, b, 0) fs) w8 := by
  have z7 : (w6.setCell ⟨g0, 0, none⟩ (.slice A1 b.length c1)).heap.size = w6.heap.size := by simp [World.setCell]
  have z56 := hg.size
  have z8 : w6.heap.size ≤ w8.heap.size := by have := h8.size; omega
  have zB := B5.size
  have glt : g0 < w5.heap.size := (Array.getElem?_eq_some_iff.1 k0).1
  have mlt := h5.tags m (by rw [g3]; simp)
  have same : ∀ k, k < w5.heap.size → tag k ≠ some .map → k ≠ g0 → w8.heap[k]? = w5.heap[k]? := fun k hk t1 t2 =>
    (h8.block k (by omega) (fun e => t1 (by injection e with e; rw [e]; exact g3))).trans ((Below.heap_setCell w6 ⟨g0, 0, none⟩ _ k t2).trans (hg.block k hk (by simp)))
  have newer : ∀ g, (Value.slice A1 b.length c1).ownBlock = some g → g = w5.heap.size := fun g hgo => by
    rcases hat with e | e
    · rw [e] at hgo; cases hgo
    · rw [e] at hgo; injection hgo with hgo; exact hgo.symm
  have gm : g0 ≠ m := fun e => by rw [e, g3] at hn0; cases hn0
  refine ⟨fun k => if some k = (Value.slice A1 b.length c1).ownBlock then some (.bytes n) else if k = g0 then some (.file n) else tag k, ?_, ?_, ?_⟩
  · refine h5.newfile (m := m) (v := .slice A1 b.length c1) g1 ?_ g8 g5 hl ?_ ?_ (fun g hgo => by show (if some g = _ then _ else _) = _; rw [if_pos hgo.symm]) (Nat.zero_le _) ?_ (fun k hk t0 t1 => ?_) (fun k hk => ?_) hfit hfew
    · rw [if_neg (fun e => by have := newer m e.symm; omega), if_neg (Ne.symm gm)]; exact g3
    · have r0 : w6.heap[g0]? = some (.cells #[.slice none 0 0, .int .i64 0] 168 (0, 0)) := (hg.block _ glt (by simp)).trans k0
      have r7 := Joins.block_setCell r0 (i := 0) (.slice A1 b.length c1)
      refine (h8.block _ (by rw [z7]; omega) (fun e => by injection e with e; exact gm e)).trans ?_
      simpa using r7
    · refine ho.same fun g hgo => ?_
      have h1 := ho.lt g hgo
      have h2 := newer g hgo
      exact (h8.block g (by rw [z7]; exact h1.2) (fun e => by injection e with e; omega)).trans (Below.heap_setCell w6 ⟨g0, 0, none⟩ _ g (show g ≠ g0 by omega))
    · rw [if_neg (fun e => by have := newer g0 e.symm; omega), if_pos rfl]
    · have hne : k ≠ g0 := fun e => t0 (by rw [e]; exact hn0)
      refine ⟨same k hk t1 hne, ?_⟩
      rw [if_neg (fun e => by have := newer k e.symm; omega), if_neg hne]
    · by_cases e : some k = (Value.slice A1 b.length c1).ownBlock
      · have := (ho.lt k e.symm).2
        omega
      · rw [if_neg e] at hk
        by_cases e2 : k = g0
        · omega
        · rw [if_neg e2] at hk
          have := h5.tags k hk
          omega
  · refine ⟨h8.os.trans (hg.os.trans B5.os), h8.tape.trans (hg.tape.trans B5.tape), h8.output.trans (hg.output.trans B5.output), by omega, fun k hk hn => ?_⟩
    exact (same k (by omega) (by rw [hn]; simp) (by omega)).trans (B5.block k hk)
  · intro k hk
    by_cases e : some k = (Value.slice A1 b.length c1).ownBlock
    · exact .inr (by have := newer k e.symm; omega)
    · dsimp only at hk
      rw [if_neg e] at hk
      by_cases e2 : k = g0
      · exact .inr (by omega)
      · rw [if_neg e2] at hk
        exact .inl hk

set_option maxRecDepth 100000 in
set_option maxHeartbeats 3200000 in
theorem append_new (h : Holds w tag d room fs) (s : ByteArray) (hs : s.size ≤ 9223372036854775807) (A0 : Option Addr) (c0 : Nat) (b : List UInt8) (hrb : Rd w 0 w.heap.size (.slice A0 b.length c0) b) (hbl : b.length ≤ 1099511627776) (hc : canS s.data.toList = true) (hl : look fs s.data.toList = none) (hfew : fs.length < 64) :
    Calls Tryz.prog 112 #[.pointer (some ⟨d, 0, none⟩), .string s, .slice A0 b.length c0] w fun e w' => e = .returned (.int .i64 (appC room fs s.data.toList b)) ∧ Left w tag d room (appF room fs s.data.toList b) w' := by
  have HF := Lib.hid (find_made h s hs)
  obtain ⟨r, hr⟩ : ∃ r, Hid (r = appC room fs s.data.toList b) := ⟨_, Lib.hid rfl⟩
  obtain ⟨gs, hgs⟩ : ∃ gs, Hid (gs = appF room fs s.data.toList b) := ⟨_, Lib.hid rfl⟩
  rw [← hr.out, ← hgs.out]
  have er : Hid (r = if fs.length < 64 ∧ fits room fs b = true then 0 else 7) := Lib.hid (by rw [hr.out]; exact ans_gone hc hl)
  have eg : Hid (gs = if fs.length < 64 ∧ fits room fs b = true then insF (s.data.toList, b, 0) fs else fs) := Lib.hid (by rw [hgs.out]; exact ans_gone hc hl)
  have HC := Lib.hid hc
  have HLK := Lib.hid hl
  obtain ⟨u, hu⟩ : ∃ u, Hid (u = used fs) := ⟨_, Lib.hid rfl⟩
  have hu1 : (u : Int) ≤ room := by rw [hu.out]; exact h.fit
  have hr1 := h.room1
  have hr0 := h.room0
  clear hc hl
  have ew : IntKind.i64.wrap (room - (u : Int)) = room - (u : Int) := IntWalk.i64_in _ (by omega)
  obtain ⟨m, bl, g1, g2, g3, g4, g5⟩ := h.struct
  have G1 := Lib.hid g1
  have G4 := Lib.hid g4
  have G5 := Lib.hid g5
  clear g1 g4 g5
  go_enter Tryz.func112, Tryz.ntmps112
  go_wp2_with fail
  (with_reducible refine HF.out.mono ?_); rintro e w1 ⟨hb, (⟨hc', rfl⟩ | ⟨hc', hl', rfl⟩ | ⟨hc', _, _, _, _, _, _, ⟨x, hl'⟩, rfl⟩)⟩
  · rw [HC.out] at hc'; cases hc'
  · have w1d := (hb.block d (h.tags d (by rw [g2]; simp))).trans G1.out
    have c1 : w1.cell? ⟨d, 1, none⟩ = some (.map (some m)) := cell_of_row w1 d 1 _ _ (0, 0) w1d
    have hlen := fun ty => (owns_same G4.out (hb.block m (h.tags m (by rw [g3]; simp)))).len (P := Tryz.prog) Tryz.underlying40 ty
    rw [mapD_size] at hlen
    have dfew : decide ((fs.length : Int) < 64) = true := by simp; omega
    -- the new file's block
    have hbA : Below w.heap.size w (w1.alloc (.cells #[.slice none 0 0, .int .i64 0] 168)) := hb.alloc hb.size _
    have h1 : Holds (w1.alloc (.cells #[.slice none 0 0, .int .i64 0] 168)).drew tag d room fs := (h.same hbA.size fun k hk => hbA.block k (h.tags k hk)).same (Nat.le_refl _) fun _ _ => rfl
    obtain ⟨m1, cc0, _⟩ := h1.cells
    have hlt : d < (w1.alloc (.cells #[.slice none 0 0, .int .i64 0] 168)).drew.heap.size := World.block_lt_of_cell? _ _ cc0
    have hu2 := used_made h1
    rw [← hu.out] at hu2
    have HU := Lib.hid hu2
    have HB := Lib.hid hb
    have HBA := Lib.hid hbA
    have CC0 := Lib.hid cc0
    have hnew := heap_alloc_new w1 (.cells #[.slice none 0 0, .int .i64 0] 168)
    have HNEW := Lib.hid hnew
    have sz1 := hb.size
    clear hu2 h1 hc' hb hbA w1d hl' hnew
    by_cases hfit : (b.length : Int) ≤ room - u
    · have dfit : decide (room - (u : Int) < (b.length : Int)) = false := by simpa using hfit
      have hyf : fits room fs b = true := by
        unfold fits
        rw [← hu.out]
        simp; omega
      have HY := Lib.hid hyf
      clear hyf
      go_wp2_with fail
      clear hlen
      go_region_held3 (fun w' => w'.cell? ⟨d, 0, none⟩ = some (.int .i64 room))
        (first | go_keep | exact CC0.out | (exact (hb5.cell hlt).trans CC0.out))
        (first | (go_at_call 121; (with_reducible refine HU.out.mono ?_); rintro e w5 ⟨rfl, hb5⟩))
      have B5 : Below w.heap.size w w5 := HBA.out.drew.trans (hb5.mono HBA.out.size)
      have h5 : Holds w5 tag d room fs := h.same B5.size fun k hk => B5.block k (h.tags k hk)
      have g15 : w5.heap[d]? = some (.cells #[.int .i64 room, .map (some m)] 42 (0, 0)) := (B5.block d (h.tags d (by rw [h.tagd]; simp))).trans G1.out
      have g45 := owns_same G4.out (B5.block m (h.tags m (by rw [g3]; simp)))
      have g55 : ∀ f ∈ fs, FileAt w5 tag bl f := fun f hf => (G5.out f hf).same rfl fun k hk _ => ⟨B5.block k hk, rfl⟩
      have hrb5 : RdA w5 0 w5.heap.size A0 b := by
        obtain ⟨A', c', e, _, hx'⟩ := (hrb.below B5 (Nat.le_refl _)).mono (Nat.le_refl _) B5.size
        injection e with e1
        rw [e1]; exact hx'
      have k0 : w5.heap[w1.heap.size]? = some (.cells #[.slice none 0 0, .int .i64 0] 168 (0, 0)) := (hb5.block _ (by show w1.heap.size < (w1.alloc (.cells #[.slice none 0 0, .int .i64 0] 168)).heap.size; simp)).trans HNEW.out
      have q0 : w5.cell? ⟨w1.heap.size, 0, none⟩ = some (.slice none 0 0) := cell_of_row w5 _ 0 _ _ (0, 0) k0
      have blt : w1.heap.size < w5.heap.size := (Array.getElem?_eq_some_iff.1 k0).1
      have mlt : m < w5.heap.size := h5.tags m (by rw [g3]; simp)
      have dlt : d < w5.heap.size := h5.tags d (by rw [h5.tagd]; simp)
      have mlt0 := h.tags m (by rw [g3]; simp)
      have dlt0 := h.tags d (by rw [h.tagd]; simp)
      have hn0 : tag w1.heap.size = none := by
        cases e : tag w1.heap.size with
        | none => rfl
        | some t => have := h.tags _ (show tag w1.heap.size ≠ none by rw [e]; simp); omega
      have K0 := Lib.hid k0
      have G15 := Lib.hid g15
      have G45 := Lib.hid g45
      have G55 := Lib.hid g55
      have HRB := Lib.hid hrb5
      have HN0 := Lib.hid hn0
      clear k0 g15 g45 g55 hrb5 hn0
      go_wp2_with (at_builtin; refine wpList_append_rd _ rfl (.tmp 46) (.tmp 47) rfl rfl (own_nil w5 0) rfl rfl HRB.out ?_ ?_ ?_)
      case _ => simp; omega
      case _ => exact Nat.zero_le _
      intro v1 w6 hown1 hg1 hat1
      obtain ⟨A1, c1', rfl, hc1, hx1⟩ := hown1.rd
      have e6 : ∀ k, k < w5.heap.size → w6.heap[k]? = w5.heap[k]? := fun k hk => hg1.block k hk (by simp [Value.ownBlock])
      have r0 := (e6 _ blt).trans K0.out
      have q6 : w6.cell? ⟨w1.heap.size, 0, none⟩ = some (.slice none 0 0) := cell_of_row w6 _ 0 _ _ (0, 0) r0
      have f6 : w6.frozen? ⟨w1.heap.size, 0, none⟩ = false := frozen_of_row w6 _ 0 _ _ r0
      have hdb : d ≠ w1.heap.size := by omega
      have hmb : m ≠ w1.heap.size := by omega
      have rd7 := (Below.heap_setCell w6 ⟨w1.heap.size, 0, none⟩ (.slice A1 b.length c1') d hdb).trans ((e6 d dlt).trans G15.out)
      have cd7 : (w6.setCell ⟨w1.heap.size, 0, none⟩ (.slice A1 b.length c1')).cell? ⟨d, 1, none⟩ = some (.map (some m)) := cell_of_row _ d 1 _ _ (0, 0) rd7
      have hom : (w6.setCell ⟨w1.heap.size, 0, none⟩ (.slice A1 b.length c1')).ownsMap Tryz.prog 9 ptrElem m fs.length (mapD bl fs) :=
        owns_same G45.out ((Below.heap_setCell w6 ⟨w1.heap.size, 0, none⟩ (.slice A1 b.length c1') m hmb).trans (e6 m mlt))
      have HOM := Lib.hid hom
      have HOWN1 := Lib.hid hown1
      have HG1 := Lib.hid hg1
      have HAT1 := Lib.hid hat1
      clear r0 rd7 e6 hom hown1 hg1 hat1 hx1
      go_wp2_with (at_mapUpdate; refine wpList_mapUpdate_own _ rfl _ _ _ 40 rfl 9 164 law9 Tryz.underlying40 ptrElem m fs.length _ rfl HOM.out (by unfold maxLen; omega) _ _ _ rfl rfl (WideMaps.keyOf_string_mk Tryz.underlying9 hs) _ [] (ptrElem_mk _) ?_; intro w8 hown8 hgrow8)
      go_ret
      refine ⟨ret_int (by rw [er.out, HY.out, if_pos ⟨hfew, rfl⟩]), ?_⟩
      rw [eg.out, HY.out, if_pos ⟨hfew, rfl⟩]
      rw [mapD_put bl fs s.data.toList w1.heap.size (b, 0), place_gone _ HLK.out] at hown8
      exact append_left2 h5 B5 sz1 HN0.out G15.out g3 hown8 G55.out HLK.out K0.out HOWN1.out HG1.out HAT1.out hgrow8 (by have := hu.out; omega) hfew
    · have dfit : decide (room - (u : Int) < (b.length : Int)) = true := by simpa using hfit
      go_wp2_with fail
      clear hlen
      go_region_held3 (fun w' => w'.cell? ⟨d, 0, none⟩ = some (.int .i64 room))
        (first | go_keep | exact CC0.out | (exact (hb5.cell hlt).trans CC0.out))
        (first | (go_at_call 121; (with_reducible refine HU.out.mono ?_); rintro e w5 ⟨rfl, hb5⟩))
      go_wp2
      go_ret
      have hnf : fits room fs b = false := by
        unfold fits
        rw [← hu.out]
        simp; omega
      exact ⟨ret_int (by rw [er.out, hnf, if_neg (by simp)]), by rw [eg.out, hnf, if_neg (by simp)]; exact Left.of_below h (HBA.out.drew.trans (hb5.mono HBA.out.size))⟩
  · rw [HLK.out] at hl'; cases hl'

set_option maxRecDepth 100000 in
set_option maxHeartbeats 1600000 in
theorem append_else (h : Holds w tag d room fs) (s : ByteArray) (hs : s.size ≤ 9223372036854775807) (v : Value) (b : List UInt8) (hc : canS s.data.toList = false ∨ (look fs s.data.toList = none ∧ ¬ fs.length < 64)) :
    Calls Tryz.prog 112 #[.pointer (some ⟨d, 0, none⟩), .string s, v] w fun e w' => e = .returned (.int .i64 (appC room fs s.data.toList b)) ∧ Left w tag d room (appF room fs s.data.toList b) w' := by
  have HF := Lib.hid (find_made h s hs)
  have HH := Lib.hid hc
  obtain ⟨r, hr⟩ : ∃ r, Hid (r = appC room fs s.data.toList b) := ⟨_, Lib.hid rfl⟩
  obtain ⟨gs, hgs⟩ : ∃ gs, Hid (gs = appF room fs s.data.toList b) := ⟨_, Lib.hid rfl⟩
  rw [← hr.out, ← hgs.out]
  obtain ⟨m, bl, g1, g2, g3, g4, g5⟩ := h.struct
  have G1 := Lib.hid g1
  have G4 := Lib.hid g4
  clear g1 g4 g5 hc
  go_enter Tryz.func112, Tryz.ntmps112
  go_wp2_with fail
  (with_reducible refine HF.out.mono ?_); rintro e w1 ⟨hb, (⟨hc, rfl⟩ | ⟨hc, hl, rfl⟩ | ⟨hc, _, _, _, _, _, _, ⟨x, hl⟩, rfl⟩)⟩
  · have e : Hid (r = 6) := Lib.hid (by rw [hr.out]; exact ans_bad hc)
    have e2 : Hid (gs = fs) := Lib.hid (by rw [hgs.out]; exact ans_bad hc)
    have HL := Lib.hid (Left.of_below h hb)
    clear hc
    go_wp2
    go_ret
    exact ⟨ret_int e.out.symm, by rw [e2.out]; exact HL.out⟩
  · have hfull : ¬ fs.length < 64 := by
      rcases HH.out with h1 | h1
      · rw [h1] at hc; cases hc
      · exact h1.2
    have e : Hid (r = 7) := Lib.hid (by rw [hr.out]; exact (ans_gone hc hl).trans (if_neg fun h => hfull h.1))
    have e2 : Hid (gs = fs) := Lib.hid (by rw [hgs.out]; exact (ans_gone hc hl).trans (if_neg fun h => hfull h.1))
    have HL := Lib.hid (Left.of_below h hb)
    have w1d := (hb.block d (h.tags d (by rw [g2]; simp))).trans G1.out
    have c1 : w1.cell? ⟨d, 1, none⟩ = some (.map (some m)) := cell_of_row w1 d 1 _ _ (0, 0) w1d
    have hlen := fun ty => (owns_same G4.out (hb.block m (h.tags m (by rw [g3]; simp)))).len (P := Tryz.prog) Tryz.underlying40 ty
    rw [mapD_size] at hlen
    have dfew : decide ((fs.length : Int) < 64) = false := by simp; omega
    clear hc hl w1d
    go_wp2
    go_ret
    exact ⟨ret_int e.out.symm, by rw [e2.out]; exact HL.out⟩
  · rcases HH.out with h1 | h1
    · rw [h1] at hc; cases hc
    · rw [h1.1] at hl; cases hl

theorem append_made (h : Holds w tag d room fs) (s : ByteArray) (hs : s.size ≤ 9223372036854775807) (v : Value) (b : List UInt8) (hrb : Rd w 0 w.heap.size v b) (hbl : b.length ≤ 1099511627776) :
    Calls Tryz.prog 112 #[.pointer (some ⟨d, 0, none⟩), .string s, v] w fun e w' => e = .returned (.int .i64 (appC room fs s.data.toList b)) ∧ Left w tag d room (appF room fs s.data.toList b) w' := by
  have hrb' := hrb
  obtain ⟨A0, c0, rfl, _, _⟩ := hrb
  cases hc : canS s.data.toList with
  | false => exact append_else h s hs _ b (.inl hc)
  | true =>
    cases hl : look fs s.data.toList with
    | some x => exact append_here h s hs A0 c0 b hrb' hbl hc hl
    | none =>
      by_cases hfew : fs.length < 64
      · exact append_new h s hs A0 c0 b hrb' hbl hc hl hfew
      · exact append_else h s hs _ b (.inr ⟨hl, hfew⟩)
end
end Go.Proofs.YtakmndfcelghfaaGreatDoor
