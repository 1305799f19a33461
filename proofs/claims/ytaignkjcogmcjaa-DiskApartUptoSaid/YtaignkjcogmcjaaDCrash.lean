/- A crash of a made disk. -/
import Derived.Test.YtaignkjcogmcjaaDCheck
namespace Go.Proofs.Ytaignkjcogmcjaa
open Go.RowKit
open Go.Lib (byteCells byteCells_length)

/-- How much of a file is kept beside its synced bytes, and what stands behind. -/
def keepOf (ts : List TearA) (n : List UInt8) : Nat := match lookT ts n with | none => 0 | some t => t.2.1.toNat
def junkOf (ts : List TearA) (n : List UInt8) : List UInt8 := match lookT ts n with | none => [] | some t => t.2.2
/-- What a crash leaves of a file. -/
def tornB (ts : List TearA) (f : FileA) : List UInt8 := f.2.1.take (f.2.2 + keepOf ts f.1) ++ junkOf ts f.1
def tornF (ts : List TearA) (f : FileA) : FileA := (f.1, tornB ts f, (tornB ts f).length)
def crashF (fs : List FileA) (ts : List TearA) : List FileA := fs.map (tornF ts)
theorem crashF_names (fs : List FileA) (ts : List TearA) : (crashF fs ts).map (·.1) = fs.map (·.1) := by
  unfold crashF
  rw [List.map_map]
  rfl

theorem lookT_mem {ts : List TearA} {n : List UInt8} {t : TearA} (h : lookT ts n = some t) : t ∈ ts ∧ t.1.data.toList = n :=
  ⟨List.mem_of_find?_eq_some h, by have := List.find?_some h; simpa using this⟩
theorem tearC_ok {fs : List FileA} : ∀ {ts done : List TearA}, tearC fs done ts = 0 → ∀ t ∈ ts, canS t.1.data.toList = true ∧ ∃ x, look fs t.1.data.toList = some x ∧ tearB x.1.length x.2 t.2.1 t.2.2.length = true
  | [], _, _, t, ht => by simp at ht
  | a :: r, done, h, t, ht => by
    by_cases hc : canS a.1.data.toList = true
    · cases hl : look fs a.1.data.toList with
      | none => rw [tearC_gone hc hl] at h; cases h
      | some x =>
        by_cases hn : ((lookT done a.1.data.toList).isSome || !tearB x.1.length x.2 a.2.1 a.2.2.length) = true
        · rw [tearC_no hc hl hn] at h; cases h
        · have hn' : lookT done a.1.data.toList = none ∧ tearB x.1.length x.2 a.2.1 a.2.2.length = true := by
            rw [Bool.not_eq_true, Bool.or_eq_false_iff] at hn
            exact ⟨by simpa using hn.1, by simpa using hn.2⟩
          rcases List.mem_cons.1 ht with rfl | ht
          · exact ⟨hc, x, hl, hn'.2⟩
          · rw [tearC_yes hc hl hn'.1 hn'.2] at h
            exact tearC_ok h t ht
    · rw [tearC_bad (by simpa using hc)] at h; cases h

theorem tearB_le {n k : Nat} {keep : Int} {j : Nat} (h : tearB n k keep j = true) : 0 ≤ keep ∧ k + keep.toNat + j ≤ n := by
  unfold tearB at h
  rw [Bool.and_eq_true, decide_eq_true_eq, decide_eq_true_eq] at h
  omega
/-- A crash that can be leaves of no file more than there was. -/
theorem torn_le {fs : List FileA} {ts : List TearA} (h : tearC fs [] ts = 0) {n : List UInt8} {x : List UInt8 × Nat} (hl : look fs n = some x) (hx : x.2 ≤ x.1.length) : x.2 + keepOf ts n ≤ x.1.length ∧ (junkOf ts n).length ≤ x.1.length - (x.2 + keepOf ts n) := by
  unfold keepOf junkOf
  cases e : lookT ts n with
  | none => simp only [List.length_nil]; omega
  | some t =>
    obtain ⟨hm, rfl⟩ := lookT_mem e
    obtain ⟨_, y, hy, hb⟩ := tearC_ok h t hm
    rw [hl] at hy
    injection hy with hy
    subst hy
    have := tearB_le hb
    simp only
    omega
theorem look_mem {fs : List FileA} (hs : Sorted fs) {f : FileA} (hf : f ∈ fs) : look fs f.1 = some f.2 := by
  cases e : look fs f.1 with
  | none => exact absurd rfl (look_none e f hf)
  | some x =>
    have := sorted_unique hs (look_some e) hf rfl
    rw [← this]
theorem tornB_len {fs : List FileA} {ts : List TearA} (h : tearC fs [] ts = 0) (hs : Sorted fs) {f : FileA} (hf : f ∈ fs) (hx : f.2.2 ≤ f.2.1.length) : (tornB ts f).length ≤ f.2.1.length := by
  have := torn_le h (look_mem hs hf) hx
  unfold tornB
  rw [List.length_append, List.length_take]
  omega
theorem used_crash {ts : List TearA} : ∀ {fs : List FileA}, (∀ f ∈ fs, (tornB ts f).length ≤ f.2.1.length) → used (crashF fs ts) ≤ used fs
  | [], _ => Nat.le_refl _
  | f :: r, h => by
    have h1 := used_crash (fs := r) fun g hg => h g (List.mem_cons_of_mem _ hg)
    have h2 := h f List.mem_cons_self
    show used (tornF ts f :: crashF r ts) ≤ _
    rw [used_cons, used_cons]
    show (tornB ts f).length + _ ≤ _
    omega

/-- What the map of tears has at a file's name. -/
theorem torn_at {w : World} {lo hi : Nat} {D : DataW Value} {fs : List FileA} {ts : List TearA} (h : TornAt w lo hi D ts) (hc : tearC fs [] ts = 0) (n : List UInt8) :
    ∃ nm J cj, D.atKey (.string n) (.held zeroTear) = .held (.agg #[.string nm, .int .i64 (keepOf ts n : Int), .slice J (junkOf ts n).length cj]) ∧ Rd w lo hi (.slice J (junkOf ts n).length cj) (junkOf ts n) := by
  unfold keepOf junkOf
  cases e : lookT ts n with
  | none => exact ⟨.empty, none, 0, (h.gone e).2 _, none, 0, rfl, Nat.le_refl _, fun hx => by simp at hx⟩
  | some t =>
    obtain ⟨_, J, cj, h2, h3⟩ := h.here e
    obtain ⟨hm, _⟩ := lookT_mem e
    obtain ⟨_, y, _, hb⟩ := tearC_ok hc t hm
    have := (tearB_le hb).1
    refine ⟨t.1, J, cj, ?_, h3⟩
    rw [h2]
    simp only
    rw [Int.toNat_of_nonneg this]

theorem ranges_same {w w' : World} {k : TypeId} {R : Value → Option (DataW Unit × List MemPlace)} {b r n cnt : Nat} {D : DataW Unit} {left : Lit → Bool} (h : w.ranges Try.prog k R b r n D left cnt) (e1 : w'.heap[b]? = w.heap[b]?) (e2 : w'.heap[r]? = w.heap[r]?) : w'.ranges Try.prog k R b r n D left cnt := by
  obtain ⟨es, clock, since, seen, c0, hb, F, hs, hD, hr, rest⟩ := h
  exact ⟨es, clock, since, seen, c0, e1.trans hb, F, hs, hD, e2.trans hr, rest⟩

/-- In the midst of a crash: these files are still to come. -/
structure Mid (w : World) (tag : Nat → Option Tag) (wr : World) (tag' : Nat → Option Tag) (d : Nat) (room : Int) (m : Nat) (bl : List UInt8 → Nat) (fs : List FileA) (ts : List TearA) (left : Lit → Bool) : Prop where
  tags : ∀ k, tag' k ≠ none → k < wr.heap.size
  hd : wr.heap[d]? = some (.cells #[.int .i64 room, .map (some m)] 43 (0, 0))
  td : tag' d = some .disk
  tm : tag' m = some .map
  files : ∀ f ∈ fs, FileAt wr tag' bl (if left (.string f.1) then f else tornF ts f)
  turned : Turned w wr tag
  wider : Wider w tag tag'

theorem Mid.same {w wr w' : World} {tag tag' : Nat → Option Tag} {d m : Nat} {room : Int} {bl : List UInt8 → Nat} {fs : List FileA} {ts : List TearA} {left : Lit → Bool} (h : Mid w tag wr tag' d room m bl fs ts left) (hz : wr.heap.size ≤ w'.heap.size) (ho : w'.os = wr.os) (ht : w'.tape = wr.tape) (hp : w'.output = wr.output)
    (hs : ∀ k, tag' k ≠ none → w'.heap[k]? = wr.heap[k]?) (hn : ∀ k, k < w.heap.size → tag k = none → w'.heap[k]? = wr.heap[k]?) : Mid w tag w' tag' d room m bl fs ts left := by
  refine ⟨fun k hk => Nat.lt_of_lt_of_le (h.tags k hk) hz, (hs d (by rw [h.td]; simp)).trans h.hd, h.td, h.tm, fun f hf => (h.files f hf).same rfl fun k _ hk => ⟨hs k ?_, rfl⟩, ⟨ho.trans h.turned.os, ht.trans h.turned.tape, hp.trans h.turned.output, Nat.le_trans h.turned.size hz, fun k hk hkn => (hn k hk hkn).trans (h.turned.block k hk hkn)⟩, h.wider⟩
  rcases hk with hk | hk <;> rw [hk] <;> simp

/-- At its end. -/
theorem Mid.end_ {w wr : World} {tag tag' : Nat → Option Tag} {d m r cnt : Nat} {room : Int} {bl : List UInt8 → Nat} {fs : List FileA} {ts : List TearA} {left : Lit → Bool} (h0 : Holds w tag d room fs) (hc : tearC fs [] ts = 0) (hle : ∀ f ∈ fs, f.2.2 ≤ f.2.1.length) (h : Mid w tag wr tag' d room m bl fs ts left) (hl : ∀ kl, left kl = false)
    (hr : wr.ranges Try.prog 9 ptrElem m r fs.length (mapD bl fs) left cnt) : Left w tag d room (crashF fs ts) wr := by
  refine ⟨tag', ⟨h.tags, ⟨m, bl, h.hd, h.td, h.tm, ?_, fun f hf => ?_⟩, h0.room0, h0.room1, ?_, ?_, sorted_names (crashF_names fs ts) h0.rise⟩, h.turned, h.wider⟩
  · rw [mapD_names bl (crashF_names fs ts), show (crashF fs ts).length = fs.length by unfold crashF; simp]
    exact hr.owns
  · obtain ⟨g, hg, rfl⟩ := List.mem_map.1 hf
    have := h.files g hg
    rw [hl] at this
    exact this
  · have := used_crash (ts := ts) fun f hf => tornB_len hc h0.rise hf (hle f hf)
    have := h0.fit
    omega
  · rw [show (crashF fs ts).length = fs.length by unfold crashF; simp]
    exact h0.few

/-- A file torn. -/
theorem Mid.step {w w3 w4 : World} {tag tag' : Nat → Option Tag} {d m : Nat} {room : Int} {bl : List UInt8 → Nat} {fs : List FileA} {ts : List TearA} {left : Lit → Bool} {n : List UInt8} {x : List UInt8 × Nat} {A : Option Addr} {c : Nat} {e : Ending} (hrise : Sorted fs) (h : Mid w tag w3 tag' d room m bl fs ts left) (hl : look fs n = some x)
    (k1 : tag' (bl n) = some (.file n)) (k3 : ∀ g, (Value.slice A x.1.length c).ownBlock = some g → tag' g = some (.bytes n))
    (hp : TearPost (bl n) (Value.slice A x.1.length c).ownBlock (x.1.take (x.2 + keepOf ts n) ++ junkOf ts n) w3 e w4) :
    ∃ tag'', Mid w tag w4 tag'' d room m bl fs ts (fun z => left z && !z.sameKey (.string n)) ∧ ∀ k, k < w3.heap.size → tag' k = none → tag'' k = none := by
  obtain ⟨_, p1, p2, p3, p4, p5, v, p6, p7, p8⟩ := hp
  have newer : ∀ g, v.ownBlock = some g → tag' g = some (.bytes n) ∨ w3.heap.size ≤ g := fun g hg => (p8 g hg).imp (k3 g) id
  refine ⟨fun k => if some k = v.ownBlock then some (.bytes n) else tag' k, ⟨fun k hk => ?_, ?_, ?_, ?_, fun f hf => ?_, ?_, fun k hk => ?_⟩, fun k hk hn => ?_⟩
  · replace hk : (if some k = v.ownBlock then some (Tag.bytes n) else tag' k) ≠ none := hk
    split at hk
    · rename_i e1; exact (p7.lt k e1.symm).2
    · exact Nat.lt_of_lt_of_le (h.tags k hk) p4
  · refine (p5 d (h.tags d (by rw [h.td]; simp)) (fun e1 => ?_) (fun e1 => ?_)).trans h.hd
    · rw [← e1, h.td] at k1; cases k1
    · have := k3 d e1.symm; rw [h.td] at this; cases this
  · rw [if_neg]; exact h.td
    intro e1
    rcases newer d e1.symm with e2 | e2
    · rw [h.td] at e2; cases e2
    · have := h.tags d (by rw [h.td]; simp); omega
  · rw [if_neg]; exact h.tm
    intro e1
    rcases newer m e1.symm with e2 | e2
    · rw [h.tm] at e2; cases e2
    · have := h.tags m (by rw [h.tm]; simp); omega
  · by_cases hn : f.1 = n
    · have ex : x = f.2 := by
        have := look_mem hrise hf
        rw [hn, hl] at this
        injection this
      have es : (left (.string f.1) && !(Lit.string f.1).sameKey (.string n)) = false := by rw [sameKey_str, hn]; simp
      simp only [es]
      subst hn
      subst ex
      refine ⟨v, p6, ?_, p7, fun g hg => by show (if some g = v.ownBlock then some (Tag.bytes f.1) else tag' g) = some (.bytes f.1); rw [if_pos hg.symm], Nat.le_refl _⟩
      show (if some (bl f.1) = v.ownBlock then some (Tag.bytes f.1) else tag' (bl f.1)) = some (.file f.1)
      rw [if_neg]; exact k1
      intro e1
      rcases newer _ e1.symm with e2 | e2
      · rw [k1] at e2; cases e2
      · have := h.tags (bl f.1) (by rw [k1]; simp); omega
    · have hne : (f.1 == n) = false := by simpa using hn
      have es : (left (.string f.1) && !(Lit.string f.1).sameKey (.string n)) = left (.string f.1) := by rw [sameKey_str, hne]; simp
      simp only [es]
      have hF := h.files f hf
      have e0 : (if left (.string f.1) = true then f else tornF ts f).1 = f.1 := by split <;> rfl
      refine hF.same rfl fun k hk hkt => ?_
      rw [e0] at hkt
      refine ⟨p5 k hk (fun e1 => ?_) (fun e1 => ?_), ?_⟩
      · rw [e1, k1] at hkt
        rcases hkt with hkt | hkt
        · injection hkt with hkt; injection hkt with hkt; exact hn hkt.symm
        · cases hkt
      · rw [k3 k e1.symm] at hkt
        rcases hkt with hkt | hkt
        · cases hkt
        · injection hkt with hkt; injection hkt with hkt; exact hn hkt.symm
      · show (if some k = v.ownBlock then some (Tag.bytes n) else tag' k) = tag' k
        rw [if_neg]
        intro e1
        rcases newer k e1.symm with e2 | e2
        · rw [e2] at hkt
          rcases hkt with hkt | hkt
          · cases hkt
          · injection hkt with hkt; injection hkt with hkt; exact hn hkt.symm
        · omega
  · refine ⟨p1.trans h.turned.os, p2.trans h.turned.tape, p3.trans h.turned.output, Nat.le_trans h.turned.size p4, fun k hk hkn => ?_⟩
    refine (p5 k (Nat.lt_of_lt_of_le hk h.turned.size) (fun e1 => ?_) (fun e1 => ?_)).trans (h.turned.block k hk hkn)
    · rcases h.wider k (by rw [e1, k1]; simp) with e2 | e2
      · exact e2 hkn
      · omega
    · rcases h.wider k (by rw [k3 k e1.symm]; simp) with e2 | e2
      · exact e2 hkn
      · omega
  · replace hk : (if some k = v.ownBlock then some (Tag.bytes n) else tag' k) ≠ none := hk
    split at hk
    · rename_i e1
      rcases newer k e1.symm with e2 | e2
      · exact h.wider k (by rw [e2]; simp)
      · exact .inr (Nat.le_trans h.turned.size e2)
    · exact h.wider k hk
  · show (if some k = v.ownBlock then some (Tag.bytes n) else tag' k) = none
    rw [if_neg]; exact hn
    intro e1
    rcases newer k e1.symm with e2 | e2
    · rw [hn] at e2; cases e2
    · omega

theorem key_size {s : ByteArray} {kl : Lit} (h : keyOf Try.prog 9 (.string s) = some kl) : s.size ≤ 9223372036854775807 := by
  simp [keyOf, Try.underlying9, mapKey] at h
  have := h.1
  first | exact this | omega | simpa using this

/-- The step of a range over the files, with the bound of the name's length. -/
theorem wpList_next_files2 (w : World) {ops : Array Oper} {rest : List Oper} {o : Oper} {a : Act} {Q : Exit → Act → World → Prop} (hg : o.guard = none) (it : Operand) (hop : o.op = Op.next it false) (bl : List UInt8 → Nat) (fs : List FileA)
    (m r n : Nat) (left : Lit → Bool) (cnt : Nat) (hit : a.eval it = .pointer (some ⟨r, 0, none⟩)) (h : w.ranges Try.prog 9 ptrElem m r n (mapD bl fs) left cnt)
    (hDone : cnt = 0 → (∀ kl, left kl = false) → wpList Try.prog ops Q rest (a.put o.dst (.tuple #[.bool false])) w)
    (hMore : ∀ (s : ByteArray) (x : List UInt8 × Nat) (w' : World) (cnt' : Nat), s.size ≤ 9223372036854775807 → look fs s.data.toList = some x → left (.string s.data.toList) = true → w'.ranges Try.prog 9 ptrElem m r n (mapD bl fs) (fun z => left z && !z.sameKey (.string s.data.toList)) cnt' → cnt' < cnt →
      w.grownBy w' (some r) → w'.heap.size = w.heap.size → (Instr.entry (.pointer (some ⟨r, 0, none⟩))).run Try.prog w' = .ok (.tuple #[.string s, .pointer (some ⟨bl s.data.toList, 0, none⟩)]) w' →
      wpList Try.prog ops Q rest (a.put o.dst (.tuple #[.bool true, .string s, .pointer (some ⟨bl s.data.toList, 0, none⟩)])) w') :
    wpList Try.prog ops Q (o :: rest) a w :=
  wpList_next_ranges w hg it hop 9 law9 ptrElem (Value.string) ptrOf (fun key kl hk => by obtain ⟨s, rfl, _⟩ := key_inv hk; exact ⟨s, rfl⟩) (fun v y hv => elem_inv hv) m r n (mapD bl fs) left cnt hit h hDone
    (fun s c kl y w' cnt' hkey hlk hv hat hrg hlt hgr hsz hen => by
      have hkz := key_size hkey
      obtain ⟨s', e, rfl⟩ := key_inv hkey
      injection e with e
      subst e
      cases hl : look fs s.data.toList with
      | none =>
        have h1 := hat .nil
        have h2 := hat (.lit (.bool true))
        rw [mapD_at, hl] at h1 h2
        rw [← h1] at h2
        cases h2
      | some x =>
        have h1 := hat .nil
        rw [mapD_at, hl] at h1
        have h3 : y.1 = .lit (.int .i64 (bl s.data.toList : Int)) := h1.symm
        have h4 : ptrOf c = .pointer (some ⟨bl s.data.toList, 0, none⟩) := by
          obtain ⟨y1, y2⟩ := y
          simp only at h3
          subst h3
          exact ptr_lit hv
        rw [h4] at hen ⊢
        exact hMore s x w' cnt' hkz hl hlk hrg hlt hgr hsz hen)

theorem wpList_lookup_held (w : World) {ops : Array Oper} {rest : List Oper} {o : Oper} {a : Act} {Q : Exit → Act → World → Prop} (hg : o.guard = none) (m x : Operand) (t : TypeId) (hop : o.op = Op.lookup t m x false)
    (k e : TypeId) (K : Maps.Keyed Try.prog k) (ht : Try.prog.underlying t = some (.map k e)) (R : Value → Option (DataW Value × List MemPlace)) {z : Value} (hz : (zeroValue e).run Try.prog w = .ok z w) (zd : DataW Value) (zp : List MemPlace) (hzd : R z = some (zd, zp)) (b n : Nat) (D : DataW Value)
    (hm : a.eval m = .map (some b)) (hown : w.ownsMap Try.prog k R b n D) (key : Value) (kl : Lit) (hx : a.eval x = key) (hkey : keyOf Try.prog k key = some kl)
    (hK : ∀ v ps, R v = some (D.atKey kl zd, ps) → wpList Try.prog ops Q rest (a.put o.dst v) w) : wpList Try.prog ops Q (o :: rest) a w := by
  refine wpList_plain hg fun K' hK' => ?_
  obtain ⟨v, ps, hrun, hv⟩ := hown.lookup K ht hz hzd hkey
  unfold Oper.wp
  simp [execOp, hop, hm, hx, hrun, Result.andThen]
  exact hK' _ _ (hK v ps hv)

/-- What Crash answers, and what it makes of the files. -/
def crashC (fs : List FileA) (ts : List TearA) : Int := tearC fs [] ts
def crashFs (fs : List FileA) (ts : List TearA) : List FileA := if tearC fs [] ts = 0 then crashF fs ts else fs

section
variable {w : World} {tag : Nat → Option Tag} {d : Nat} {room : Int} {fs : List FileA}
set_option maxRecDepth 100000 in
set_option maxHeartbeats 3200000 in
theorem crash_made (h : Holds w tag d room fs) (lo : Nat) (hlo : ∀ k, tag k ≠ none → k < lo) (v : Value) (ts : List TearA) (hr : RdTearsL w lo v ts) (hl : ts.length ≤ 1048576) (hs : ∀ t ∈ ts, t.1.size ≤ 9223372036854775807) (hk : ∀ t ∈ ts, t.2.1 ≤ 9223372036854775807) :
    Calls Try.prog 23 #[.pointer (some ⟨d, 0, none⟩), v] w fun e w' => e = .returned (.int .i64 (crashC fs ts)) ∧ Left w tag d room (crashFs fs ts) w' := by
  have HCK := Lib.hid (checkTears_made h lo v ts hr hl hs hk)
  have HH := Lib.hid h
  have HLO := Lib.hid hlo
  obtain ⟨c, hc⟩ : ∃ c, Hid (c = crashC fs ts) := ⟨_, Lib.hid rfl⟩
  obtain ⟨gs, hgs⟩ : ∃ gs, Hid (gs = crashFs fs ts) := ⟨_, Lib.hid rfl⟩
  rw [← hc.out, ← hgs.out]
  clear h hlo hr hs hk
  go_enter Try.func23, Try.ntmps23
  go_wp2_with fail
  (with_reducible refine HCK.out.mono ?_); rintro e w1 ⟨hb1, (⟨hc0, mt, D, rfl, hmt, hown, hta⟩ | ⟨hc0, rfl⟩)⟩
  · have HC0 := Lib.hid hc0
    have HB1 := Lib.hid hb1
    have h1 := HH.out.same hb1.size fun k hk => hb1.block k (HH.out.tags k hk)
    obtain ⟨m, bl, g1, g2, g3, g4, g5⟩ := h1.struct
    have c1 : w1.cell? ⟨d, 1, none⟩ = some (.map (some m)) := cell_of_row w1 d 1 _ _ (0, 0) g1
    have hmlt := HH.out.tags m (by rw [g3]; simp)
    have hdlt := HH.out.tags d (by rw [g2]; simp)
    have hsz1 := hb1.size
    have hmtlt := hown.lt
    have hmid1 : Mid w tag w1 tag d room m bl fs ts (fun kl => Maps.has (mapD bl fs) kl) := ⟨h1.tags, g1, g2, g3, fun f hf => by
      have e1 : Maps.has (mapD bl fs) (.string f.1) = true := hlit fs bl f hf
      simp only [e1, if_true]
      exact g5 f hf, Turned.of_below hb1, fun _ hk => .inl hk⟩
    have hle : ∀ f ∈ fs, f.2.2 ≤ f.2.1.length := fun f hf => by
      obtain ⟨_, _, _, _, _, h5⟩ := g5 f hf
      exact h5
    have HMID1 := Lib.hid hmid1
    have HLE := Lib.hid hle
    have HTA := Lib.hid hta
    have HOWN := Lib.hid hown
    clear g1 g2 g3 g5 h1 hmid1 hle hta hown hb1 hc0
    go_wp2_with (at_range; refine wpList_range_own _ rfl _ 41 rfl 9 80 law9 Try.underlying41 ptrElem m fs.length _ rfl g4 ?_; intro w2 hrg2 hg2 hs2)
    go_frame
    have hr0 : tag w1.heap.size = none := by
      cases e : tag w1.heap.size with
      | none => rfl
      | some t => have := HH.out.tags _ (by rw [e]; simp); omega
    have hmt0 : tag mt = none := by
      cases e : tag mt with
      | none => rfl
      | some t => have := HH.out.tags _ (by rw [e]; simp); omega
    have hmid2 : Mid w tag w2 tag d room m bl fs ts (fun kl => Maps.has (mapD bl fs) kl) := HMID1.out.same hg2.size hg2.os hg2.tape hg2.output (fun k hk => hg2.block k (by have := HMID1.out.tags k hk; omega) (by simp)) (fun k hk _ => hg2.block k (by omega) (by simp))
    have hmtb := hg2.block mt hmtlt (by simp)
    clear hg2
    go_loopw [] (fun wr => ∃ (left : Lit → Bool) (cnt : Nat) (tag' : Nat → Option Tag), wr.ranges Try.prog 9 ptrElem m w1.heap.size fs.length (mapD bl fs) left cnt ∧ Mid w tag wr tag' d room m bl fs ts left ∧ tag' w1.heap.size = none ∧ tag' mt = none ∧ wr.heap[mt]? = w1.heap[mt]? ∧ w1.heap.size < wr.heap.size) (fun wr => wr.rangeLeft m w1.heap.size)
    case atStart => exact ⟨_, _, tag, hrg2, hmid2, hr0, hmt0, hmtb, by omega⟩
    case round =>
      obtain ⟨left, cnt, tag', hrg, hmid, hr', hmt', hmtb', hz'⟩ := hrel
      have HMID := Lib.hid hmid
      clear hmid
      go_wp2_with (at_next; refine wpList_next_files2 _ rfl _ rfl bl fs m w1.heap.size _ _ _ rfl hrg ?_ ?_)
      · intro hc0 hl0
        have HE := Lib.hid (HMID.out.end_ HH.out HC0.out HLE.out hl0 hrg)
        have e : Hid (gs = crashF fs ts) := Lib.hid (by rw [hgs.out]; unfold crashFs; rw [if_pos HC0.out])
        have ec : Hid (c = 0) := Lib.hid (by rw [hc.out]; exact HC0.out)
        clear hc0 hl0
        go_wp2
        go_ret
        exact ⟨ret_int ec.out.symm, by rw [e.out]; exact HE.out⟩
      · intro s x1 x2 w3 cnt1 hsz hlk hleft hrg3 hlt hg3 hs3 hen
        have hm := look_some hlk
        have hmid3 : Mid w tag w3 tag' d room m bl fs ts left := HMID.out.same hg3.size hg3.os hg3.tape hg3.output (fun k hk => hg3.block k (HMID.out.tags k hk) (fun e => by injection e with e; rw [e] at hk; exact hk hr')) (fun k hk _ => hg3.block k (by omega) (fun e => by injection e with e; omega))
        have hf := hmid3.files _ hm
        rw [if_pos hleft] at hf
        have hfo := hf.open_
        obtain ⟨v0, k0, k1, k2, k3, k4⟩ := hf
        obtain ⟨A, ca, j0, j1, j2, j3⟩ := hfo
        obtain rfl : v0 = .slice A x1.length ca := by
          rw [k0] at j0
          simp only at j0
          injection j0 with j0
          injection j0 with j0
          have := congrArg (fun a : Array Value => a[0]?) j0
          simpa using this
        obtain ⟨nm, J, cj, hat, hrd⟩ := torn_at HTA.out HC0.out s.data.toList
        have HAT := Lib.hid hat
        have hle3 := torn_le HC0.out hlk k4
        simp only at hle3 k0 k2
        have hx16 : x1.length ≤ 16777216 := by
          have h1 := used_mem hm
          have h2 := HH.out.fit
          have h3 := HH.out.room1
          simp only at h1
          omega
        have hrd3 : Rd w3 0 w3.heap.size (.slice J (junkOf ts s.data.toList).length cj) (junkOf ts s.data.toList) := (hrd.keep fun p q1 q2 => World.cell?_of_block (hmid3.turned.block p.block q2 (by
          cases e : tag p.block with
          | none => rfl
          | some t => have := HLO.out p.block (by rw [e]; simp); omega))).mono (Nat.zero_le _) hmid3.turned.size
        have HTE := Lib.hid (tear_any (bl s.data.toList) A ca x2 (keepOf ts s.data.toList) x1 nm J cj (junkOf ts s.data.toList) w3 k0 hle3.1 (by omega) (by omega) k2 (fun e => by have := k3 _ e; rw [k1] at this; cases this) hrd3)
        have o3 := ownsV_same HOWN.out ((hg3.block mt (by omega) (fun e => by injection e with e; omega)).trans hmtb')
        have HM3 := Lib.hid hmid3
        have K1 := Lib.hid k1
        have K3 := Lib.hid k3
        have HLK := Lib.hid hlk
        clear hm hmid3 k0 k1 k2 k3 k4 j0 j1 j2 j3 hat hrd hrd3 hle3 hlk
        go_wp2_with (at_lookup; refine wpList_lookup_held _ rfl _ _ 87 rfl 9 65 law9 Try.underlying87 selfR (zero65 _) (.held zeroTear) [] rfl mt ts.length D rfl o3 _ _ rfl (WideMaps.keyOf_string_mk Try.underlying9 hsz) ?_; intro v ps hv; rw [HAT.out] at hv; have hv2 := selfR_inv hv; subst hv2; clear hv)
        (with_reducible refine HTE.out.mono ?_); intro e w4 hp
        obtain ⟨tag'', hmid4, hkeep⟩ := HM3.out.step (e := e) HH.out.rise HLK.out K1.out K3.out hp
        obtain ⟨rfl, p1, p2, p3, p4, p5, _⟩ := hp
        have hsame : ∀ b, b < w3.heap.size → tag' b = none ∨ tag' b = some .map → w4.heap[b]? = w3.heap[b]? := fun b hb ht => p5 b hb (fun e => by
            rw [e, K1.out] at ht
            rcases ht with ht | ht <;> cases ht) (fun e => by
            rw [K3.out b e.symm] at ht
            rcases ht with ht | ht <;> cases ht)
        have hrlt := hrg3.lt
        have hrg4 := ranges_same hrg3 (hsame m (HM3.out.tags m (by rw [HM3.out.tm]; simp)) (.inr HM3.out.tm)) (hsame _ hrlt (.inl hr'))
        have hLT : w4.rangeLeft m w1.heap.size < wr.rangeLeft m w1.heap.size := by rw [hrg4.left_eq, hrg.left_eq]; exact hlt
        have hmt3 := (hsame mt (by omega) (.inl hmt')).trans ((hg3.block mt (by omega) (fun e => by injection e with e; omega)).trans hmtb')
        have HM4 := Lib.hid hmid4
        have q1 := hkeep w1.heap.size (by omega) hr'
        have q2 := hkeep mt (by omega) hmt'
        have q3 : w1.heap.size < w4.heap.size := by omega
        clear hsame hkeep hmid4 p1 p2 p3 p4 p5 hg3 hen hleft
        go_wp2
        go_roundw
        case rel => exact ⟨_, _, tag'', hrg4, HM4.out, q1, q2, hmt3, q3⟩
        case measure => exact hLT
  · have e : Hid (gs = fs) := Lib.hid (by rw [hgs.out]; unfold crashFs; rw [if_neg hc0])
    have HL := Lib.hid (Left.of_below HH.out hb1)
    obtain ⟨u, hu⟩ : ∃ u, u = tearC fs [] ts := ⟨_, rfl⟩
    have ec : Hid (c = u) := Lib.hid (hc.out.trans hu.symm)
    have hu0 : (u != 0) = true := by rw [hu]; simpa using hc0
    rw [← hu]
    clear hb1 hu hc0
    go_wp2
    go_ret
    exact ⟨ret_int ec.out.symm, by rw [e.out]; exact HL.out⟩
end
end Go.Proofs.Ytaignkjcogmcjaa
