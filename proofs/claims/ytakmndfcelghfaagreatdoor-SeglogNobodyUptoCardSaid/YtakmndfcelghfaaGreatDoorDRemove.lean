/- A made disk: Remove, Wipe, Rename. -/
import Derived.Test.YtakmndfcelghfaaGreatDoorDAwake
import Derived.MapFrom
namespace Go.Proofs.YtakmndfcelghfaaGreatDoor
open Go.RowKit
open Go.Lib (byteCells byteCells_length)

theorem strike_cons_eq {f : FileA} {r : List FileA} {n : List UInt8} (h : f.1 = n) : strike (f :: r) n = strike r n := by unfold strike; rw [List.filter_cons_of_neg (by simp [h])]
theorem strike_cons_ne {f : FileA} {r : List FileA} {n : List UInt8} (h : f.1 ≠ n) : strike (f :: r) n = f :: strike r n := by unfold strike; rw [List.filter_cons_of_pos (by simp [h])]
theorem strike_here {fs : List FileA} (h : Sorted fs) {n : List UInt8} {x : List UInt8 × Nat} (hl : look fs n = some x) : used (strike fs n) + x.1.length = used fs ∧ (strike fs n).length + 1 = fs.length := by
  induction fs with
  | nil => cases hl
  | cons f r ih =>
    have h1 := List.pairwise_cons.1 h
    by_cases hn : f.1 = n
    · have e : x = f.2 := by
        have : look (f :: r) n = some f.2 := by unfold look; simp [hn]
        rw [this] at hl; injection hl with hl; exact hl.symm
      have hr : strike r n = r := strike_gone fun g hg eg => bb_ne (h1.1 g hg) (hn.trans eg.symm)
      rw [strike_cons_eq hn, hr, used_cons, e]
      exact ⟨by omega, rfl⟩
    · have e : look (f :: r) n = look r n := by unfold look; simp [hn]
      rw [e] at hl
      have := ih h1.2 hl
      rw [strike_cons_ne hn, used_cons, used_cons, List.length_cons, List.length_cons]
      exact ⟨by omega, by omega⟩
theorem place_sorted {fs : List FileA} (h : Sorted fs) (n : List UInt8) (y : List UInt8 × Nat) : Sorted (place fs n y) := insF_sorted (strike_sorted h) fun _ hf => (mem_strike hf).2
theorem place_used (fs : List FileA) (n : List UInt8) (y : List UInt8 × Nat) : used (place fs n y) ≤ y.1.length + used fs := by
  unfold place
  rw [used_insF]
  have := strike_used fs n
  simp only; omega
theorem place_length (fs : List FileA) (n : List UInt8) (y : List UInt8 × Nat) : (place fs n y).length ≤ fs.length + 1 := by
  unfold place
  rw [insF_length]
  have := strike_length fs n
  omega

theorem clear_own {w : World} {m n : Nat} {D : DataW Unit} (h : w.ownsMap Tryz.prog 9 ptrElem m n D) : ∃ w', (∀ ty, (Builtin.clear_ #[40] ty #[.map (some m)]).run Tryz.prog w = .ok (.tuple #[]) w') ∧ w'.ownsMap Tryz.prog 9 ptrElem m 0 (.map []) ∧ w.grownBy w' (some m) := by
  obtain ⟨es, clock, hb, F, _, rfl⟩ := h
  refine ⟨ChangeMaps.setBlock w m (.map #[] clock), fun ty => ?_, ⟨#[], clock, ChangeMaps.heap_setBlock_same hb _, ⟨by simp, MapKept.stamped_empty clock, by simp⟩, Nat.le_refl _, rfl⟩, ⟨rfl, rfl, rfl, by simp [ChangeMaps.setBlock], fun i _ hi => ChangeMaps.heap_setBlock_other hb _ (fun e => hi (by rw [e]))⟩⟩
  simp [Builtin.clear_, run_underlying Tryz.underlying40, MapKept.run_getObj_map hb, MapKept.run_setObj_map _ hb, Result.andThen, ChangeMaps.setBlock]

section
variable {w : World} {tag : Nat → Option Tag} {d : Nat} {room : Int} {fs : List FileA}

/-- Files are gone; nothing else has turned but the map. -/
theorem Holds.fewer {w' : World} {m c : Nat} {bl : List UInt8 → Nat} {gs : List FileA} (h : Holds w tag d room fs)
    (g1 : w.heap[d]? = some (.cells #[.int .i64 room, .map (some m)] 42 (0, 0))) (g3 : tag m = some .map) (g4 : w'.ownsMap Tryz.prog 9 ptrElem m c (mapD bl gs)) (g5 : ∀ f ∈ fs, FileAt w tag bl f) (hg : w.grownBy w' (some m))
    (hsub : ∀ f ∈ gs, f ∈ fs) (hs : Sorted gs) (hu : used gs ≤ used fs) (hlen : gs.length ≤ fs.length) : Holds w' tag d room gs := by
  have hd := h.tagd
  have g4' := owns_tight g4
  rw [mapD_size] at g4'
  have e : ∀ k, k < w.heap.size → tag k ≠ some .map → w'.heap[k]? = w.heap[k]? := fun k hk ht => hg.block k hk (fun e => ht (by injection e with e; rw [e]; exact g3))
  refine ⟨fun k hk => Nat.lt_of_lt_of_le (h.tags k hk) hg.size, ⟨m, bl, (e d (h.tags d (by rw [hd]; simp)) (by rw [hd]; simp)).trans g1, hd, g3, g4', fun f hf => (g5 f (hsub f hf)).same rfl fun k hk hkt => ⟨e k hk ?_, rfl⟩⟩, h.room0, h.room1, ?_, ?_, hs⟩
  · rcases hkt with hkt | hkt <;> rw [hkt] <;> simp
  · have := h.fit; omega
  · have := h.few; omega

theorem left_of_map {w1 w' : World} {m : Nat} {gs : List FileA} (hb : Below w.heap.size w w1) (hm : tag m = some .map) (hg : w1.grownBy w' (some m)) (h : Holds w' tag d room gs) : Left w tag d room gs w' :=
  ⟨tag, h, ⟨hg.os.trans hb.os, hg.tape.trans hb.tape, hg.output.trans hb.output, Nat.le_trans hb.size hg.size, fun k hk hn => (hg.block k (Nat.lt_of_lt_of_le hk hb.size) (fun e => by injection e with e; rw [e, hm] at hn; cases hn)).trans (hb.block k hk)⟩, fun _ hk => .inl hk⟩

/-- What Remove makes of the files. -/
def remF (fs : List FileA) (n : List UInt8) : List FileA := ans fs n fs fs fun _ => strike fs n

set_option maxRecDepth 100000 in
set_option maxHeartbeats 800000 in
theorem remove_made (h : Holds w tag d room fs) (s : ByteArray) (hs : s.size ≤ 9223372036854775807) :
    Calls Tryz.prog 115 #[.pointer (some ⟨d, 0, none⟩), .string s] w fun e w' => e = .returned (.int .i64 (codeF fs s.data.toList)) ∧ Left w tag d room (remF fs s.data.toList) w' := by
  have HF := Lib.hid (find_made h s hs)
  obtain ⟨r, hr⟩ : ∃ r, Hid (r = codeF fs s.data.toList) := ⟨_, Lib.hid rfl⟩
  obtain ⟨gs, hgs⟩ : ∃ gs, Hid (gs = remF fs s.data.toList) := ⟨_, Lib.hid rfl⟩
  rw [← hr.out, ← hgs.out]
  go_enter Tryz.func115, Tryz.ntmps115
  go_wp2_with fail
  (with_reducible refine HF.out.mono ?_); rintro e w1 ⟨hb, (⟨hc, rfl⟩ | ⟨hc, hl, rfl⟩ | ⟨hc, m, bl, g1, g3, g4, g5, ⟨x, hl⟩, rfl⟩)⟩
  · have e : Hid (r = 6) := Lib.hid (by rw [hr.out]; exact ans_bad hc)
    have e2 : Hid (gs = fs) := Lib.hid (by rw [hgs.out]; exact ans_bad hc)
    have HL := Lib.hid (Left.of_below h hb)
    clear hc
    go_wp2
    go_ret
    exact ⟨ret_int e.out.symm, by rw [e2.out]; exact HL.out⟩
  · have e : Hid (r = 20) := Lib.hid (by rw [hr.out]; exact ans_gone hc hl)
    have e2 : Hid (gs = fs) := Lib.hid (by rw [hgs.out]; exact ans_gone hc hl)
    have HL := Lib.hid (Left.of_below h hb)
    clear hc hl
    go_wp2
    go_ret
    exact ⟨ret_int e.out.symm, by rw [e2.out]; exact HL.out⟩
  · have e : Hid (r = 0) := Lib.hid (by rw [hr.out]; exact ans_here hc hl)
    have e2 : Hid (gs = strike fs s.data.toList) := Lib.hid (by rw [hgs.out]; exact ans_here hc hl)
    have h1 : Holds w1 tag d room fs := h.same hb.size fun k hk => hb.block k (h.tags k hk)
    have g11 := (hb.block d (h.tags d (by rw [h.tagd]; simp))).trans g1
    have g41 := owns_same g4 (hb.block m (h.tags m (by rw [g3]; simp)))
    have g51 : ∀ f ∈ fs, FileAt w1 tag bl f := fun f hf => (g5 f hf).same rfl fun k hk _ => ⟨hb.block k hk, rfl⟩
    have c1 : w1.cell? ⟨d, 1, none⟩ = some (.map (some m)) := cell_of_row w1 d 1 _ _ (0, 0) g11
    have G11 := Lib.hid g11
    have G51 := Lib.hid g51
    have HL := Lib.hid hl
    have HB := Lib.hid hb
    clear hc hl g1 g4 g5 g11 g51 hb
    go_wp2_with (at_delete; refine wpList_delete_own _ rfl _ _ 40 9 rfl 164 law9 Tryz.underlying40 ptrElem m fs.length _ rfl g41 _ _ rfl (WideMaps.keyOf_string_mk Tryz.underlying9 hs) ?_; intro w2 hown2 hturn2)
    go_ret
    refine ⟨ret_int e.out.symm, ?_⟩
    rw [e2.out]
    rw [mapD_del] at hown2
    exact left_of_map HB.out g3 hturn2.grown (h1.fewer G11.out g3 hown2 G51.out hturn2.grown (fun f hf => (mem_strike hf).1) (strike_sorted h.rise) (strike_used _ _) (strike_length _ _))

/-- What Rename answers, and what it makes of the files. -/
def renC (fs : List FileA) (a b : List UInt8) : Int := if canS a = true ∧ canS b = true then (if (look fs a).isSome then 0 else 20) else 6
def renF (fs : List FileA) (a b : List UInt8) : List FileA := if canS a = true ∧ canS b = true then (match look fs a with | some x => place (strike fs a) b x | none => fs) else fs

/-- A file's blocks get its new name. -/
def renT (tag : Nat → Option Tag) (a b : List UInt8) : Nat → Option Tag := fun k =>
  match tag k with
  | some (.file x) => if x = a then some (.file b) else some (.file x)
  | some (.bytes x) => if x = a then some (.bytes b) else some (.bytes x)
  | t => t
theorem renT_none {tag : Nat → Option Tag} {a b : List UInt8} {k : Nat} : renT tag a b k = none ↔ tag k = none := by
  unfold renT
  cases tag k with
  | none => simp
  | some t => cases t <;> simp <;> split <;> simp

theorem Holds.renamed {w' : World} {m c : Nat} {bl : List UInt8 → Nat} {a b : List UInt8} {x : List UInt8 × Nat} (h : Holds w tag d room fs)
    (g1 : w.heap[d]? = some (.cells #[.int .i64 room, .map (some m)] 42 (0, 0))) (g3 : tag m = some .map) (g4 : w'.ownsMap Tryz.prog 9 ptrElem m c (mapD (upd bl b (bl a)) (place (strike fs a) b x))) (g5 : ∀ f ∈ fs, FileAt w tag bl f) (hg : w.grownBy w' (some m))
    (hl : look fs a = some x) : Holds w' (renT tag a b) d room (place (strike fs a) b x) := by
  have hd := h.tagd
  have g4' := owns_tight g4
  rw [mapD_size] at g4'
  have e : ∀ k, k < w.heap.size → tag k ≠ some .map → w'.heap[k]? = w.heap[k]? := fun k hk ht => hg.block k hk (fun e => ht (by injection e with e; rw [e]; exact g3))
  have hsh := strike_here h.rise hl
  refine ⟨fun k hk => Nat.lt_of_lt_of_le (h.tags k (fun e => hk (renT_none.2 e))) hg.size, ⟨m, upd bl b (bl a), (e d (h.tags d (by rw [hd]; simp)) (by rw [hd]; simp)).trans g1, by unfold renT; rw [hd], by unfold renT; rw [g3], g4', fun f hf => ?_⟩, h.room0, h.room1, ?_, ?_, place_sorted (strike_sorted h.rise) _ _⟩
  · rcases mem_insF.1 hf with rfl | hf
    · obtain ⟨v, k1, k2, k3, k4, k5⟩ := g5 _ (look_some hl)
      have l1 : bl a < w.heap.size := (Array.getElem?_eq_some_iff.1 k1).1
      refine ⟨v, ?_, ?_, k3.same fun g hgo => e g (k3.lt g hgo).2 (by rw [k4 g hgo]; simp), fun g hgo => ?_, k5⟩
      · simp only [upd, if_true]
        exact (e _ l1 (by simp only at k2; rw [k2]; simp)).trans k1
      · simp only [upd, if_true]
        unfold renT
        simp only at k2
        rw [k2]; simp
      · have := k4 g hgo
        unfold renT
        rw [this]; simp
    · obtain ⟨hf1, hnb⟩ := mem_strike hf
      obtain ⟨hf2, hna⟩ := mem_strike hf1
      refine (g5 f hf2).same (by simp [upd, hnb]) fun k hk hkt => ?_
      rcases hkt with hkt | hkt
      · exact ⟨e k hk (by rw [hkt]; simp), by unfold renT; rw [hkt]; simp [hna]⟩
      · exact ⟨e k hk (by rw [hkt]; simp), by unfold renT; rw [hkt]; simp [hna]⟩
  · have h1 := place_used (strike fs a) b x
    have := h.fit
    omega
  · have h1 := place_length (strike fs a) b x
    have := h.few
    omega

set_option maxRecDepth 100000 in
set_option maxHeartbeats 1600000 in
theorem rename_made (h : Holds w tag d room fs) (s t : ByteArray) (hs : s.size ≤ 9223372036854775807) (ht : t.size ≤ 9223372036854775807) :
    Calls Tryz.prog 116 #[.pointer (some ⟨d, 0, none⟩), .string s, .string t] w fun e w' => e = .returned (.int .i64 (renC fs s.data.toList t.data.toList)) ∧ Left w tag d room (renF fs s.data.toList t.data.toList) w' := by
  have hb0 : Below w.heap.size w (w.alloc (.cells #[.string s, .string t] 9)) := (Below.refl _ _).alloc (Nat.le_refl _) _
  have h0 : Holds (w.alloc (.cells #[.string s, .string t] 9)) tag d room fs := h.same hb0.size fun k hk => hb0.block k (h.tags k hk)
  have hrow := fun i => cell_of_row _ w.heap.size i _ _ (0, 0) (heap_alloc_new w (.cells #[.string s, .string t] 9))
  have hck := check_made h0 [s, t] (some ⟨w.heap.size, 0, none⟩) 2 (by simp; exact ⟨hs, ht⟩) 2 rfl (by decide) (fun j hj => ⟨_, rfl, by
    match j, hj with
    | 0, _ => exact hrow 0
    | 1, _ => exact hrow 1⟩)
  have ha : allCan [s, t] = (canS s.data.toList && canS t.data.toList) := by simp [allCan]
  obtain ⟨r, hr⟩ : ∃ r, Hid (r = renC fs s.data.toList t.data.toList) := ⟨_, Lib.hid rfl⟩
  obtain ⟨gs, hgs⟩ : ∃ gs, Hid (gs = renF fs s.data.toList t.data.toList) := ⟨_, Lib.hid rfl⟩
  rw [← hr.out, ← hgs.out]
  rw [ha] at hck
  by_cases hcc : canS s.data.toList = true ∧ canS t.data.toList = true
  · rw [hcc.1, hcc.2, show codeOf (true && true) = 0 from rfl] at hck
    have HC := Lib.hid hck
    have er : Hid (r = if (look fs s.data.toList).isSome then 0 else 20) := Lib.hid (by rw [hr.out]; unfold renC; rw [if_pos hcc])
    have eg : Hid (gs = (match look fs s.data.toList with | some x => place (strike fs s.data.toList) t.data.toList x | none => fs)) := Lib.hid (by rw [hgs.out]; unfold renF; rw [if_pos hcc])
    have HCC := Lib.hid hcc
    have HB0 := Lib.hid hb0
    clear hck ha hrow hb0 h0 hcc
    go_enter Tryz.func116, Tryz.ntmps116
    go_wp2_with fail
    (with_reducible refine HC.out.mono ?_); rintro e w1 ⟨rfl, hb1⟩
    have hb01 := HB0.out.trans (hb1.mono HB0.out.size)
    have h1 : Holds w1 tag d room fs := h.same hb01.size fun k hk => hb01.block k (h.tags k hk)
    have HF := Lib.hid (find_made h1 s hs)
    have H1 := Lib.hid h1
    have HB01 := Lib.hid hb01
    clear h1 hb01 hb1
    go_wp2_with fail
    (with_reducible refine HF.out.mono ?_); rintro e w2 ⟨hb, (⟨hc, rfl⟩ | ⟨hc, hl, rfl⟩ | ⟨hc, m, bl, g1, g3, g4, g5, ⟨x, hl⟩, rfl⟩)⟩
    · rw [HCC.out.1] at hc; cases hc
    · have e : Hid (r = 20) := Lib.hid (by rw [er.out, hl]; rfl)
      have e2 : Hid (gs = fs) := Lib.hid (by rw [eg.out, hl])
      have HL := Lib.hid (Left.of_below h (HB01.out.trans (hb.mono HB01.out.size)))
      clear hc hl
      go_wp2
      go_ret
      exact ⟨ret_int e.out.symm, by rw [e2.out]; exact HL.out⟩
    · have e : Hid (r = 0) := Lib.hid (by rw [er.out, hl]; rfl)
      have e2 : Hid (gs = place (strike fs s.data.toList) t.data.toList x) := Lib.hid (by rw [eg.out, hl])
      have h2 : Holds w2 tag d room fs := H1.out.same hb.size fun k hk => hb.block k (H1.out.tags k hk)
      have g11 := (hb.block d (H1.out.tags d (by rw [h.tagd]; simp))).trans g1
      have g41 := owns_same g4 (hb.block m (H1.out.tags m (by rw [g3]; simp)))
      have g51 : ∀ f ∈ fs, FileAt w2 tag bl f := fun f hf => (g5 f hf).same rfl fun k hk _ => ⟨hb.block k hk, rfl⟩
      have c1 : w2.cell? ⟨d, 1, none⟩ = some (.map (some m)) := cell_of_row w2 d 1 _ _ (0, 0) g11
      have dm : d ≠ m := fun e => by have := h.tagd; rw [e, g3] at this; cases this
      have hfew := h.few
      have G11 := Lib.hid g11
      have G51 := Lib.hid g51
      have HLK := Lib.hid hl
      have HB := Lib.hid (HB01.out.trans (hb.mono HB01.out.size))
      clear hc hl g1 g4 g5 g11 g51 hb
      have hstep : ∀ w3, w2.mapTurned w3 m → w3.cell? ⟨d, 1, none⟩ = some (.map (some m)) := fun w3 hturn3 => cell_of_row w3 d 1 _ _ (0, 0) ((hturn3.grown.block d (h2.tags d (by rw [h.tagd]; simp)) (fun e => dm (by injection e))).trans G11.out)
      have HSTEP := Lib.hid hstep
      clear hstep
      go_wp2_with (first
        | (at_delete; refine wpList_delete_own _ rfl _ _ 40 9 rfl 164 law9 Tryz.underlying40 ptrElem m fs.length _ rfl g41 _ _ rfl (WideMaps.keyOf_string_mk Tryz.underlying9 hs) ?_; intro w3 hown3 hturn3; have c3 := HSTEP.out w3 hturn3; have HG3 := Lib.hid hturn3.grown; clear hturn3)
        | (at_mapUpdate; refine wpList_mapUpdate_own _ rfl _ _ _ 40 rfl 9 164 law9 Tryz.underlying40 ptrElem m fs.length _ rfl hown3 (by unfold maxLen; omega) _ _ _ rfl rfl (WideMaps.keyOf_string_mk Tryz.underlying9 ht) _ [] (ptrElem_mk _) ?_; intro w4 hown4 hg4))
      go_ret
      refine ⟨ret_int e.out.symm, ?_⟩
      rw [e2.out]
      rw [mapD_del, mapD_put bl (strike fs s.data.toList) t.data.toList (bl s.data.toList) x] at hown4
      have hg24 : w2.grownBy w4 (some m) := ⟨hg4.os.trans HG3.out.os, hg4.tape.trans HG3.out.tape, hg4.output.trans HG3.out.output, Nat.le_trans HG3.out.size hg4.size, fun k hk hne => (hg4.block k (Nat.lt_of_lt_of_le hk HG3.out.size) hne).trans (HG3.out.block k hk hne)⟩
      have hh := h2.renamed G11.out g3 hown4 G51.out hg24 HLK.out
      refine ⟨_, hh, ⟨hg24.os.trans HB.out.os, hg24.tape.trans HB.out.tape, hg24.output.trans HB.out.output, Nat.le_trans HB.out.size hg24.size, fun k hk hn => (hg24.block k (Nat.lt_of_lt_of_le hk HB.out.size) (fun e => by injection e with e; rw [e, g3] at hn; cases hn)).trans (HB.out.block k hk)⟩, fun k hk => .inl fun e => hk (renT_none.2 e)⟩
  · have hf : (canS s.data.toList && canS t.data.toList) = false := by
      rw [Bool.and_eq_false_iff]
      by_cases h1 : canS s.data.toList = true
      · exact .inr (by simpa using fun h2 => hcc ⟨h1, h2⟩)
      · exact .inl (by simpa using h1)
    rw [hf, show codeOf false = 6 from rfl] at hck
    have HC := Lib.hid hck
    have er : Hid (r = 6) := Lib.hid (by rw [hr.out]; unfold renC; rw [if_neg hcc])
    have eg : Hid (gs = fs) := Lib.hid (by rw [hgs.out]; unfold renF; rw [if_neg hcc])
    have HB0 := Lib.hid hb0
    clear hck ha hrow hb0 h0 hcc hf
    go_enter Tryz.func116, Tryz.ntmps116
    go_wp2_with fail
    (with_reducible refine HC.out.mono ?_); rintro e w1 ⟨rfl, hb1⟩
    go_wp2
    go_ret
    exact ⟨ret_int er.out.symm, by rw [eg.out]; exact Left.of_below h (HB0.out.trans (hb1.mono HB0.out.size))⟩
end
end Go.Proofs.YtakmndfcelghfaaGreatDoor
