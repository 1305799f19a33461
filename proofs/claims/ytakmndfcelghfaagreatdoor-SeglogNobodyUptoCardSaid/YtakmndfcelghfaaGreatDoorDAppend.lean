/- A made disk: Append. -/
import Derived.Test.YtakmndfcelghfaaGreatDoorDSync
import Derived.Deep.RegionHeld3
import Derived.IntWalk
namespace Go.Proofs.YtakmndfcelghfaaGreatDoor
open Go.RowKit
open Go.Lib (byteCells byteCells_length)

section
variable {w : World} {tag : Nat → Option Tag} {d : Nat} {room : Int} {fs : List FileA}

theorem Holds.refile2 {w' : World} {tag' : Nat → Option Tag} {m c : Nat} {bl : List UInt8 → Nat} {n : List UInt8} {x y : List UInt8 × Nat} {v : Value} (h : Holds w tag d room fs)
    (g1 : w.heap[d]? = some (.cells #[.int .i64 room, .map (some m)] 42 (0, 0))) (g3 : tag' m = some .map) (g4 : w'.ownsMap Tryz.prog 9 ptrElem m c (mapD bl (setF fs n y))) (g5 : ∀ f ∈ fs, FileAt w tag bl f)
    (hl : look fs n = some x) (hb : w'.heap[bl n]? = some (.cells #[v, .int .i64 (y.2 : Int)] 168 (0, 0))) (hv : Own w' 0 v y.1) (ht : ∀ g, v.ownBlock = some g → tag' g = some (.bytes n)) (hy : y.2 ≤ y.1.length) (hbt : tag' (bl n) = some (.file n))
    (ho : ∀ k, k < w.heap.size → tag k ≠ none → tag k ≠ some .map → tag k ≠ some (.file n) → tag k ≠ some (.bytes n) → w'.heap[k]? = w.heap[k]? ∧ tag' k = tag k) (hz : ∀ k, tag' k ≠ none → k < w'.heap.size)
    (hfit : (used fs : Int) + y.1.length ≤ room + x.1.length) : Holds w' tag' d room (setF fs n y) := by
  have hd := h.tagd
  have ed := ho d (h.tags d (by rw [hd]; simp)) (by rw [hd]; simp) (by rw [hd]; simp) (by rw [hd]; simp) (by rw [hd]; simp)
  have g4' := owns_tight g4
  rw [mapD_size] at g4'
  refine ⟨hz, ⟨m, bl, ed.1.trans g1, ed.2.trans hd, g3, g4', fun f hf => ?_⟩, h.room0, h.room1, ?_, ?_, setF_sorted h.rise⟩
  · rcases mem_setF hf with rfl | ⟨hf, hn⟩
    · exact ⟨v, hb, hbt, hv, ht, hy⟩
    · refine (g5 f hf).same rfl fun k hk hkt => ?_
      rcases hkt with hkt | hkt
      · exact ho k hk (by rw [hkt]; simp) (by rw [hkt]; simp) (by rw [hkt]; simp [hn]) (by rw [hkt]; simp)
      · exact ho k hk (by rw [hkt]; simp) (by rw [hkt]; simp) (by rw [hkt]; simp) (by rw [hkt]; simp [hn])
  · have := used_setF h.rise y hl
    omega
  · rw [setF_length]; exact h.few

theorem Holds.newfile {w' : World} {tag' : Nat → Option Tag} {m c g0 : Nat} {bl : List UInt8 → Nat} {n : List UInt8} {y : List UInt8 × Nat} {v : Value} (h : Holds w tag d room fs)
    (g1 : w.heap[d]? = some (.cells #[.int .i64 room, .map (some m)] 42 (0, 0))) (g3 : tag' m = some .map) (g4 : w'.ownsMap Tryz.prog 9 ptrElem m c (mapD (upd bl n g0) (insF (n, y) fs))) (g5 : ∀ f ∈ fs, FileAt w tag bl f)
    (hl : look fs n = none) (hb : w'.heap[g0]? = some (.cells #[v, .int .i64 (y.2 : Int)] 168 (0, 0))) (hv : Own w' 0 v y.1) (ht : ∀ g, v.ownBlock = some g → tag' g = some (.bytes n)) (hy : y.2 ≤ y.1.length) (hbt : tag' g0 = some (.file n))
    (ho : ∀ k, k < w.heap.size → tag k ≠ none → tag k ≠ some .map → w'.heap[k]? = w.heap[k]? ∧ tag' k = tag k) (hz : ∀ k, tag' k ≠ none → k < w'.heap.size)
    (hfit : (used fs : Int) + y.1.length ≤ room) (hfew : fs.length < 64) : Holds w' tag' d room (insF (n, y) fs) := by
  have hd := h.tagd
  have hgone := look_none hl
  have ed := ho d (h.tags d (by rw [hd]; simp)) (by rw [hd]; simp) (by rw [hd]; simp)
  have g4' := owns_tight g4
  rw [mapD_size] at g4'
  refine ⟨hz, ⟨m, upd bl n g0, ed.1.trans g1, ed.2.trans hd, g3, g4', fun f hf => ?_⟩, h.room0, h.room1, ?_, ?_, insF_sorted h.rise hgone⟩
  · rcases mem_insF.1 hf with rfl | hf
    · exact ⟨v, by simp [upd]; exact hb, by simp [upd]; exact hbt, hv, ht, hy⟩
    · refine (g5 f hf).same (by simp [upd, hgone f hf]) fun k hk hkt => ?_
      rcases hkt with hkt | hkt
      · exact ho k hk (by rw [hkt]; simp) (by rw [hkt]; simp)
      · exact ho k hk (by rw [hkt]; simp) (by rw [hkt]; simp)
  · rw [used_insF]; simp only; omega
  · rw [insF_length]; omega

/-- Do so many more bytes fit? -/
def fits (room : Int) (fs : List FileA) (b : List UInt8) : Bool := decide ((used fs : Int) + b.length ≤ room)
/-- What Append answers, and what it makes of the files. -/
def appC (room : Int) (fs : List FileA) (n b : List UInt8) : Int := ans fs n 6 (if fs.length < 64 ∧ fits room fs b = true then 0 else 7) fun _ => if fits room fs b = true then 0 else 7
def appF (room : Int) (fs : List FileA) (n b : List UInt8) : List FileA := ans fs n fs (if fs.length < 64 ∧ fits room fs b = true then insF (n, b, 0) fs else fs) fun x => if fits room fs b = true then setF fs n (x.1 ++ b, x.2) else fs

theorem drew_left {w' : World} {gs : List FileA} (h : Left w tag d room gs w') (k : Nat) : Left w tag d room gs (w'.drewN k) := by
  obtain ⟨tag', h1, h2, h3⟩ := h
  exact ⟨tag', h1.same (Nat.le_refl _) fun _ _ => rfl, ⟨h2.os, h2.tape, h2.output, h2.size, h2.block⟩, h3⟩

theorem upd_same (bl : List UInt8 → Nat) (n : List UInt8) : upd bl n (bl n) = bl := by
  funext k
  unfold upd
  split
  · rename_i h; rw [h]
  · rfl

/-- Behind the three writes of Append. -/
theorem append_left {w5 w6 w8 : World} {m c cc c1 : Nat} {bl : List UInt8 → Nat} {n b ys : List UInt8} {x : List UInt8 × Nat} {A A1 : Option Addr} (h5 : Holds w5 tag d room fs) (B5 : Below w.heap.size w w5)
    (g1 : w5.heap[d]? = some (.cells #[.int .i64 room, .map (some m)] 42 (0, 0))) (g3 : tag m = some .map) (g8 : w8.ownsMap Tryz.prog 9 ptrElem m cc (mapD bl (setF fs n (x.1 ++ b, x.2)))) (g5 : ∀ f ∈ fs, FileAt w5 tag bl f)
    (hl : look fs n = some x) (k0 : w5.heap[bl n]? = some (.cells #[.slice A x.1.length c, .int .i64 (x.2 : Int)] 168 (0, 0))) (k1 : tag (bl n) = some (.file n)) (k3 : ∀ g, (Value.slice A x.1.length c).ownBlock = some g → tag g = some (.bytes n)) (k4 : x.2 ≤ x.1.length)
    (hys : Hid (ys = x.1 ++ b)) (ho : Own w6 0 (.slice A1 ys.length c1) ys) (hg : w5.grownBy w6 (Value.slice A x.1.length c).ownBlock) (hat : (Value.slice A1 ys.length c1).ownBlock = (Value.slice A x.1.length c).ownBlock ∨ (Value.slice A1 ys.length c1).ownBlock = some w5.heap.size)
    (h8 : (w6.setCell ⟨bl n, 0, none⟩ (.slice A1 ys.length c1)).grownBy w8 (some m)) (hfit : (used fs : Int) + b.length ≤ room) : Left w tag d room (setF fs n (x.1 ++ b, x.2)) w8 := by
  obtain rfl := hys.out
  have z7 : (w6.setCell ⟨bl n, 0, none⟩ (.slice A1 (x.1 ++ b).length c1)).heap.size = w6.heap.size := by simp [World.setCell]
  have z56 := hg.size
  have z8 : w6.heap.size ≤ w8.heap.size := by have := h8.size; omega
  have blt : bl n < w5.heap.size := (Array.getElem?_eq_some_iff.1 k0).1
  -- a block that none of the three writes turns
  have same : ∀ k, k < w5.heap.size → tag k ≠ some .map → tag k ≠ some (.file n) → tag k ≠ some (.bytes n) → w8.heap[k]? = w5.heap[k]? := fun k hk t1 t2 t3 =>
    (h8.block k (by omega) (fun e => t1 (by injection e with e; rw [e]; exact g3))).trans ((Below.heap_setCell w6 ⟨bl n, 0, none⟩ _ k (fun e => t2 (by have e' : k = bl n := e; rw [e']; exact k1))).trans (hg.block k hk (fun e => t3 (k3 k e.symm))))
  have newer : ∀ g, (Value.slice A1 (x.1 ++ b).length c1).ownBlock = some g → tag g = some (.bytes n) ∨ g = w5.heap.size := fun g hgo => by
    rcases hat with e | e
    · rw [e] at hgo; exact .inl (k3 g hgo)
    · rw [e] at hgo; injection hgo with hgo; exact .inr hgo.symm
  have notag : tag w5.heap.size = none := by
    cases e : tag w5.heap.size with
    | none => rfl
    | some t => exact absurd (h5.tags _ (by rw [e]; simp)) (Nat.lt_irrefl _)
  have gne : ∀ g, (Value.slice A1 (x.1 ++ b).length c1).ownBlock = some g → g ≠ m ∧ g ≠ bl n := fun g hgo => by
    rcases newer g hgo with e | e
    · exact ⟨fun e2 => (by rw [e2, g3] at e; cases e), fun e2 => (by rw [e2, k1] at e; cases e)⟩
    · exact ⟨fun e2 => (by have := h5.tags m (by rw [g3]; simp); omega), fun e2 => (by omega)⟩
  refine ⟨fun k => if some k = (Value.slice A1 (x.1 ++ b).length c1).ownBlock then some (.bytes n) else tag k, ?_, ?_, ?_⟩
  · refine h5.refile2 (x := x) (v := .slice A1 (x.1 ++ b).length c1) g1 ?_ g8 g5 hl ?_ ?_ (fun g hgo => by show (if some g = _ then _ else _) = _; rw [if_pos hgo.symm]) (by simp only [List.length_append]; omega) ?_ (fun k hk t0 t1 t2 t3 => ⟨same k hk t1 t2 t3, ?_⟩) (fun k hk => ?_) (by simp only [List.length_append]; omega)
    · rw [if_neg (fun e => (gne m e.symm).1 rfl)]; exact g3
    · have r0 : w6.heap[bl n]? = some (.cells #[.slice A x.1.length c, .int .i64 (x.2 : Int)] 168 (0, 0)) := (hg.block _ blt (fun e => by have := k3 _ e.symm; rw [k1] at this; cases this)).trans k0
      have r7 := Joins.block_setCell r0 (i := 0) (.slice A1 (x.1 ++ b).length c1)
      refine (h8.block _ (by rw [z7]; omega) (fun e => by injection e with e; rw [e, g3] at k1; cases k1)).trans ?_
      simpa using r7
    · refine ho.same fun g hgo => ?_
      have := ho.lt g hgo
      exact (h8.block g (by rw [z7]; exact this.2) (fun e => (gne g hgo).1 (by injection e))).trans (Below.heap_setCell w6 ⟨bl n, 0, none⟩ _ g (gne g hgo).2)
    · rw [if_neg (fun e => (gne _ e.symm).2 rfl)]; exact k1
    · rw [if_neg]
      intro e
      rcases newer k e.symm with e2 | e2
      · exact t3 e2
      · omega
    · by_cases e : some k = (Value.slice A1 (x.1 ++ b).length c1).ownBlock
      · have := (ho.lt k e.symm).2
        omega
      · rw [if_neg e] at hk
        have := h5.tags k hk
        omega
  · have z := B5.size
    refine ⟨h8.os.trans (hg.os.trans B5.os), h8.tape.trans (hg.tape.trans B5.tape), h8.output.trans (hg.output.trans B5.output), by omega, fun k hk hn => ?_⟩
    exact (same k (by omega) (by rw [hn]; simp) (by rw [hn]; simp) (by rw [hn]; simp)).trans (B5.block k hk)
  · intro k hk
    by_cases e : some k = (Value.slice A1 (x.1 ++ b).length c1).ownBlock
    · rcases newer k e.symm with e2 | e2
      · exact .inl (by rw [e2]; simp)
      · exact .inr (by have := B5.size; omega)
    · dsimp only at hk
      rw [if_neg e] at hk
      exact .inl hk

set_option maxRecDepth 100000 in
set_option maxHeartbeats 3200000 in
theorem append_here (h : Holds w tag d room fs) (s : ByteArray) (hs : s.size ≤ 9223372036854775807) (A0 : Option Addr) (c0 : Nat) (b : List UInt8) (hrb : Rd w 0 w.heap.size (.slice A0 b.length c0) b) (hbl : b.length ≤ 1099511627776) (hc : canS s.data.toList = true) {x : List UInt8 × Nat} (hl : look fs s.data.toList = some x) :
    Calls Tryz.prog 112 #[.pointer (some ⟨d, 0, none⟩), .string s, .slice A0 b.length c0] w fun e w' => e = .returned (.int .i64 (appC room fs s.data.toList b)) ∧ Left w tag d room (appF room fs s.data.toList b) w' := by
  have HF := Lib.hid (find_made h s hs)
  obtain ⟨r, hr⟩ : ∃ r, Hid (r = appC room fs s.data.toList b) := ⟨_, Lib.hid rfl⟩
  obtain ⟨gs, hgs⟩ : ∃ gs, Hid (gs = appF room fs s.data.toList b) := ⟨_, Lib.hid rfl⟩
  rw [← hr.out, ← hgs.out]
  have er : Hid (r = if fits room fs b = true then 0 else 7) := Lib.hid (by rw [hr.out]; exact ans_here hc hl)
  have eg : Hid (gs = if fits room fs b = true then setF fs s.data.toList (x.1 ++ b, x.2) else fs) := Lib.hid (by rw [hgs.out]; exact ans_here hc hl)
  have HC := Lib.hid hc
  have HLK := Lib.hid hl
  obtain ⟨u, hu⟩ : ∃ u, Hid (u = used fs) := ⟨_, Lib.hid rfl⟩
  have hu1 : (u : Int) ≤ room := by rw [hu.out]; exact h.fit
  have hr1 := h.room1
  have hr0 := h.room0
  clear hc hl
  have ew : IntKind.i64.wrap (room - (u : Int)) = room - (u : Int) := IntWalk.i64_in _ (by omega)
  go_enter Tryz.func112, Tryz.ntmps112
  go_wp2_with fail
  (with_reducible refine HF.out.mono ?_); rintro e w1 ⟨hb, (⟨hc', rfl⟩ | ⟨hc', hl', rfl⟩ | ⟨hc', m, bl, g1, g3, g4, g5, _, rfl⟩)⟩
  · rw [HC.out] at hc'; cases hc'
  · rw [HLK.out] at hl'; cases hl'
  · have h1 : Holds w1.drew tag d room fs := (h.same hb.size fun k hk => hb.block k (h.tags k hk)).same (Nat.le_refl _) fun _ _ => rfl
    obtain ⟨m1, cc0, _⟩ := h1.cells
    have hlt : d < w1.drew.heap.size := World.block_lt_of_cell? _ _ cc0
    have cd0 : w1.cell? ⟨d, 0, none⟩ = some (.int .i64 room) := cc0
    have hu2 := used_made h1
    rw [← hu.out] at hu2
    have HU := Lib.hid hu2
    have G1 := Lib.hid g1
    have G4 := Lib.hid g4
    have G5 := Lib.hid g5
    have HB := Lib.hid hb
    have CC0 := Lib.hid cc0
    clear hu2 h1 hc' g1 g4 g5 hb cc0
    by_cases hfit : (b.length : Int) ≤ room - u
    · have dfit : decide (room - (u : Int) < (b.length : Int)) = false := by simpa using hfit
      go_wp2_with fail
      go_region_held3 (fun w' => w'.cell? ⟨d, 0, none⟩ = some (.int .i64 room))
        (first | go_keep | (exact (hb5.cell hlt).trans CC0.out))
        (first | (go_at_call 121; (with_reducible refine HU.out.mono ?_); rintro e w5 ⟨rfl, hb5⟩))
      have hyf : fits room fs b = true := by
        unfold fits
        rw [← hu.out]
        simp; omega
      have B5 : Below w.heap.size w w5 := HB.out.drew.trans (hb5.mono HB.out.size)
      obtain ⟨n, hn⟩ : ∃ n, Hid (n = s.data.toList) := ⟨_, Lib.hid rfl⟩
      have hm := look_some HLK.out
      have hux := used_mem hm
      rw [← hu.out] at hux
      have hxl : x.1.length ≤ 16777216 := by simp only at hux; omega
      have hf5 : FileAt w5 tag bl (s.data.toList, x) := (G5.out _ hm).same rfl fun k hk _ => ⟨B5.block k hk, rfl⟩
      obtain ⟨v, k0, k1, k2, k3, k4⟩ := hf5
      have h5 : Holds w5 tag d room fs := h.same B5.size fun k hk => B5.block k (h.tags k hk)
      have g15 : w5.heap[d]? = some (.cells #[.int .i64 room, .map (some m)] 42 (0, 0)) := (B5.block d (h.tags d (by rw [h.tagd]; simp))).trans G1.out
      have g45 := owns_same G4.out (B5.block m (h.tags m (by rw [g3]; simp)))
      have g55 : ∀ f ∈ fs, FileAt w5 tag bl f := fun f hf => (G5.out f hf).same rfl fun k hk _ => ⟨B5.block k hk, rfl⟩
      have k2' : Own w5 0 v x.1 := k2
      obtain ⟨A, c, rfl, hcv, hxv⟩ := k2'.rd
      have hrb5 : RdA w5 0 w5.heap.size A0 b := by
        obtain ⟨A', c', e, _, hx'⟩ := (hrb.below B5 (Nat.le_refl _)).mono (Nat.le_refl _) B5.size
        injection e with e1
        rw [e1]; exact hx'
      have q0 : w5.cell? ⟨bl s.data.toList, 0, none⟩ = some (.slice A x.1.length c) := cell_of_row w5 _ 0 _ _ (0, 0) k0
      have blt : bl s.data.toList < w5.heap.size := (Array.getElem?_eq_some_iff.1 k0).1
      have mlt : m < w5.heap.size := h5.tags m (by rw [g3]; simp)
      have dlt : d < w5.heap.size := h5.tags d (by rw [h5.tagd]; simp)
      obtain ⟨ys, hys⟩ : ∃ ys, Hid (ys = x.1 ++ b) := ⟨_, Lib.hid rfl⟩
      have K0 := Lib.hid k0
      have K1 := Lib.hid k1
      have K2 := Lib.hid k2'
      have K3 := Lib.hid k3
      have G15 := Lib.hid g15
      have G45 := Lib.hid g45
      have G55 := Lib.hid g55
      have HRB := Lib.hid hrb5
      have HY := Lib.hid hyf
      clear k0 k1 k2 k2' k3 g15 g45 g55 hrb5 hm hux hxv hyf
      go_wp2_with (at_builtin; refine wpList_append_rd _ rfl (.tmp 46) (.tmp 47) rfl rfl K2.out rfl rfl HRB.out ?_ ?_ ?_)
      case _ => omega
      intro v1 w6 hown1 hg1 hat1
      rw [← hys.out] at hown1
      obtain ⟨A1, c1, rfl, hc1, hx1⟩ := hown1.rd
      have nown : ∀ k, tag k ≠ some (.bytes s.data.toList) → some k ≠ (Value.slice A x.1.length c).ownBlock := fun k hk e => hk (K3.out k e.symm)
      have e6 : ∀ k, k < w5.heap.size → tag k ≠ some (.bytes s.data.toList) → w6.heap[k]? = w5.heap[k]? := fun k hk ht => hg1.block k hk (nown k ht)
      have r0 := (e6 _ blt (by rw [K1.out]; simp)).trans K0.out
      have q6 : w6.cell? ⟨bl s.data.toList, 0, none⟩ = some (.slice A x.1.length c) := cell_of_row w6 _ 0 _ _ (0, 0) r0
      have f6 : w6.frozen? ⟨bl s.data.toList, 0, none⟩ = false := frozen_of_row w6 _ 0 _ _ r0
      have rd := (e6 d dlt (by rw [h5.tagd]; simp)).trans G15.out
      have hdb : d ≠ bl s.data.toList := fun e => by have h1 := h5.tagd; rw [e, K1.out] at h1; cases h1
      have hmb : m ≠ bl s.data.toList := fun e => by have h1 := g3; rw [e, K1.out] at h1; cases h1
      have rd7 := (Below.heap_setCell w6 ⟨bl s.data.toList, 0, none⟩ (.slice A1 ys.length c1) d hdb).trans rd
      have cd7 : (w6.setCell ⟨bl s.data.toList, 0, none⟩ (.slice A1 ys.length c1)).cell? ⟨d, 1, none⟩ = some (.map (some m)) := cell_of_row _ d 1 _ _ (0, 0) rd7
      have hom : (w6.setCell ⟨bl s.data.toList, 0, none⟩ (.slice A1 ys.length c1)).ownsMap Tryz.prog 9 ptrElem m fs.length (mapD bl fs) :=
        owns_same G45.out ((Below.heap_setCell w6 ⟨bl s.data.toList, 0, none⟩ (.slice A1 ys.length c1) m hmb).trans (e6 m mlt (by rw [g3]; simp)))
      have hfew := h.few
      have R0 := Lib.hid r0
      have RD := Lib.hid rd
      have E6 := Lib.hid e6
      have NOWN := Lib.hid nown
      have HOM := Lib.hid hom
      have HOWN1 := Lib.hid hown1
      have HG1 := Lib.hid hg1
      have HAT1 := Lib.hid hat1
      clear r0 rd rd7 e6 nown hom hown1 hg1 hat1 hx1
      go_wp2_with (at_mapUpdate; refine wpList_mapUpdate_own _ rfl _ _ _ 40 rfl 9 164 law9 Tryz.underlying40 ptrElem m fs.length _ rfl HOM.out (by unfold maxLen; omega) _ _ _ rfl rfl (WideMaps.keyOf_string_mk Tryz.underlying9 hs) _ [] (ptrElem_mk _) ?_; intro w8 hown8 hgrow8)
      go_ret
      refine ⟨ret_int (by rw [er.out, HY.out]; rfl), ?_⟩
      rw [eg.out, HY.out, if_pos rfl]
      rw [mapD_put bl fs s.data.toList (bl s.data.toList) (x.1 ++ b, x.2), place_setF h.rise _ HLK.out, upd_same] at hown8
      exact append_left h5 B5 G15.out g3 hown8 G55.out HLK.out K0.out K1.out K3.out k4 hys HOWN1.out HG1.out HAT1.out hgrow8 (by have := hu.out; omega)
    · have dfit : decide (room - (u : Int) < (b.length : Int)) = true := by simpa using hfit
      go_wp2_with fail
      go_region_held3 (fun w' => w'.cell? ⟨d, 0, none⟩ = some (.int .i64 room))
        (first | go_keep | (exact (hb5.cell hlt).trans CC0.out))
        (first | (go_at_call 121; (with_reducible refine HU.out.mono ?_); rintro e w5 ⟨rfl, hb5⟩))
      go_wp2
      go_ret
      have hnf : fits room fs b = false := by
        unfold fits
        rw [← hu.out]
        simp; omega
      exact ⟨ret_int (by rw [er.out, hnf]; rfl), by rw [eg.out, hnf]; exact Left.of_below h (HB.out.drew.trans (hb5.mono HB.out.size))⟩
end
end Go.Proofs.YtakmndfcelghfaaGreatDoor
