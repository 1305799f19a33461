/- Rows of one cell each: words, floats. -/
import Derived.Test.YtaihkehbpppngaaTNever
import Derived.Lib.AppendStr
namespace Go.Proofs.Ytaihkehbpppngaa
open Go.RowKit

def uV (x : Nat) : Value := .int .u64 (x : Int)
def fV (x : Nat) : Value := .float .f64 x
def RdWA (f : Nat → Value) (w : World) (hi : Nat) (A : Option Addr) (xs : List Nat) : Prop := ∀ (j : Nat) (x : Nat), xs[j]? = some x → ∃ ad : Addr, A = some ad ∧ ad.block < hi ∧ w.cell? (ad.add j) = some (f x)
/-- The slice value reads as these words. -/
def RdW (f : Nat → Value) (w : World) (v : Value) (xs : List Nat) : Prop := ∃ A c, v = .slice A xs.length c ∧ xs.length ≤ c ∧ RdWA f w w.heap.size A xs
theorem RdWA.below {f : Nat → Value} {w w' : World} {hi : Nat} {A : Option Addr} {xs : List Nat} (h : RdWA f w hi A xs) {B : Nat} (hb : Below B w w') (hB : hi ≤ B) : RdWA f w' hi A xs := fun j d hd => by
  obtain ⟨ad, e, h0, h1⟩ := h j d hd
  exact ⟨ad, e, h0, (hb.cell (by rw [add_block]; omega)).trans h1⟩
theorem RdWA.mono {f : Nat → Value} {w : World} {hi hi' : Nat} {A : Option Addr} {xs : List Nat} (h : RdWA f w hi A xs) (hh : hi ≤ hi') : RdWA f w hi' A xs := fun j d hd => by
  obtain ⟨ad, e, h0, h1⟩ := h j d hd
  exact ⟨ad, e, Nat.lt_of_lt_of_le h0 hh, h1⟩
theorem RdW.below {f : Nat → Value} {w w' : World} {v : Value} {xs : List Nat} (h : RdW f w v xs) (hb : Below w.heap.size w w') : RdW f w' v xs := by
  obtain ⟨A, c, e, hc, hx⟩ := h
  exact ⟨A, c, e, hc, (hx.below hb (Nat.le_refl _)).mono hb.size⟩
/-- A slice of the call's own that holds these words. -/
def OwnW (T : TypeId) (f : Nat → Value) (w : World) (base : Nat) (v : Value) (xs : List Nat) : Prop := w.ownsRow base T 1 v xs.length (xs.map f)
theorem OwnW.rd {T : TypeId} {f : Nat → Value} {w : World} {base : Nat} {v : Value} {xs : List Nat} (h : OwnW T f w base v xs) : RdW f w v xs := by
  rcases h.2 with ⟨rfl, hn⟩ | ⟨g, cap, cur, rfl, hb, hg, hc, _⟩
  · have : xs = [] := List.length_eq_zero_iff.1 hn
    subst this
    exact ⟨none, 0, rfl, Nat.le_refl _, fun j d hd => by simp at hd⟩
  · refine ⟨_, cap, rfl, hc, fun j d hd => ⟨⟨g, 0, none⟩, rfl, (World.ownsRow.lt h g rfl).2, ?_⟩⟩
    exact World.ownsRow.cells h (g := g) rfl j _ (by rw [List.getElem?_map, hd]; rfl)
theorem OwnW.below {T : TypeId} {f : Nat → Value} {w w' : World} {base : Nat} {v : Value} {xs : List Nat} (h : OwnW T f w base v xs) (hb : Below w.heap.size w w') : OwnW T f w' base v xs := by
  refine World.ownsRow.kept (row := none) h ⟨hb.os, hb.tape, hb.output, hb.size, fun k hk _ => hb.block k hk⟩ ?_
  cases v.ownBlock <;> simp
theorem ownW_nil (T : TypeId) (f : Nat → Value) (w : World) (base : Nat) : OwnW T f w base (.slice none 0 0) [] := World.ownsRow_nil w base T 1
theorem OwnW.slice {T : TypeId} {f : Nat → Value} {w : World} {base : Nat} {v : Value} {xs : List Nat} (h : OwnW T f w base v xs) : ∃ A c, v = .slice A xs.length c := by
  rcases h.2 with ⟨rfl, h0⟩ | ⟨g, cap, cur, rfl, _⟩
  · exact ⟨none, 0, by rw [h0]⟩
  · exact ⟨_, _, rfl⟩

theorem wpList_append_W {ST T : TypeId} (ht : Try.prog.underlying ST = some (.slice T)) {z : Value} (hT : (Try.prog.info? T).map (fun i => (i.zero, i.size, i.bytes)) = some (some z, 1, 8)) (hzs : z.cells.size = 1) (f : Nat → Value) (hf : ∀ x, (f x).oneCell' = true)
    {ops : Array Oper} {rest : List Oper} {o : Oper} {a : Act} {Q : Exit → Act → World → Prop} (w : World) (hgd : o.guard = none) (s x : Operand)
    (ho : o.op = .call { callee := .builtin .append, args := #[s, x], argTypes := #[ST, ST] })
    {base hi : Nat} {v : Value} {xs ys : List Nat} {ad : Addr} {m c : Nat} (hs : a.eval s = v) (hx : a.eval x = .slice (some ad) m c) (hm : m = ys.length) (hown : OwnW T f w base v xs) (hr : RdWA f w hi (some ad) ys)
    (h63 : xs.length + ys.length ≤ 4398046511104) (hbase : base ≤ w.heap.size) {m' : Nat} (hm' : Hid (m' = (xs ++ ys).length))
    (h : ∀ A1 c1 w', OwnW T f w' base (.slice A1 m' c1) (xs ++ ys) → w.grownBy w' v.ownBlock → wpList Try.prog ops Q rest (a.put o.dst (.slice A1 m' c1)) w') :
    wpList Try.prog ops Q (o :: rest) a w := by
  subst hm
  refine wpList_plain hgd fun K hK => ?_
  obtain ⟨i, hi, hz0, hz1, hz2⟩ := info_parts hT
  have hn : ∀ j u, (ys.map f)[j]? = some u → w.cell? (ad.add j) = some u := by
    intro j u hj
    rw [List.getElem?_map] at hj
    obtain ⟨y, hy, rfl⟩ := Option.map_eq_some_iff.1 hj
    obtain ⟨ad', e, _, hc⟩ := hr j y hy
    injection e with e
    subst e
    exact hc
  obtain ⟨v', w', hrun, h2, h3, _, h5⟩ := run_append_own_at (P := Try.prog) w base ST o.type T i z 1 8 ht hi hz0 hz1 hz2 hzs (by decide) v xs.length (xs.map f) hown ad ys.length c (ys.map f) (by simp) hn (by intro u hu; obtain ⟨y, _, rfl⟩ := List.mem_map.1 hu; exact hf y) (by simp only [maxLen]; omega) (by omega) hbase
  unfold Oper.wp execOp
  simp only [ho, resolve, invoke, builtin, Sem.run_bind, Sem.run_pure, Result.andThen_ok, List.map_toArray, List.map_cons, List.map_nil, hs, hx, hrun]
  have h2' : OwnW T f w' base v' (xs ++ ys) := by unfold OwnW; rw [List.length_append, List.map_append]; exact h2
  obtain ⟨A1, c1, rfl⟩ := h2'.slice
  rw [← hm'.out] at h2' ⊢
  exact hK _ _ (h A1 c1 w' h2' h3)

theorem infoU : (Try.prog.info? 22).map (fun i => (i.zero, i.size, i.bytes)) = some (some (.int .u64 0), 1, 8) := by kernel_rfl
theorem infoF : (Try.prog.info? 42).map (fun i => (i.zero, i.size, i.bytes)) = some (some (.float .f64 0), 1, 8) := by kernel_rfl

set_option maxRecDepth 100000 in
set_option maxHeartbeats 1600000 in
theorem cloneU_any (v : Value) (xs : List Nat) (w : World) (h : RdW uV w v xs) (hl : xs.length ≤ 1099511627776) :
    Calls Try.prog 20 #[v] w fun e w' => ∃ A c, e = .returned (.slice A xs.length c) ∧ RdW uV w' (.slice A xs.length c) xs ∧ Below w.heap.size w w' := by
  obtain ⟨A, c, rfl, hc, hx⟩ := h
  cases A with
  | none =>
    have e : xs = [] := by
      cases xs with
      | nil => rfl
      | cons x r => obtain ⟨ad, e, _⟩ := hx 0 x rfl; cases e
    subst e
    have he : ∀ u : World, (binOp .eql 32 (.slice none 0 c) (.slice none 0 0)).run Try.prog u = .ok (.bool true) u := fun u => Lib.run_eql_slice_nil (P := Try.prog) u 32 22 none 0 c 0 0 Try.underlying32
    go_enter Try.func20, Try.ntmps20
    go_wp2
    go_ret
    exact ⟨none, 0, rfl, ⟨none, 0, rfl, Nat.le_refl _, fun j d hd => by simp at hd⟩, Below.refl _ _⟩
  | some ad =>
    obtain ⟨n, hn⟩ : ∃ n, Hid (n = xs.length) := ⟨_, Lib.hid rfl⟩
    rw [← hn.out] at hl hc ⊢
    have hB : Below w.heap.size w (w.alloc (.cells #[] 22)) := (Below.refl _ _).alloc (Nat.le_refl _) _
    have HO : Hid (OwnW 22 uV (w.alloc (.cells #[] 22)) w.heap.size (.slice (some ⟨w.heap.size, 0, none⟩) 0 0) []) := Lib.hid ⟨rfl, .inr ⟨w.heap.size, 0, #[], rfl, Nat.le_refl _, heap_alloc_new w _, Nat.le_refl _, by decide, rfl, rfl⟩⟩
    have HX : Hid (RdWA uV (w.alloc (.cells #[] 22)) w.heap.size (some ad) xs) := Lib.hid (hx.below hB (Nat.le_refl _))
    have HB := Lib.hid hB
    have h63 : ([] : List Nat).length + xs.length ≤ 4398046511104 := by have := hn.out; simp only [List.length_nil]; omega
    have hzz : w.heap.size ≤ (w.alloc (.cells #[] 22)).heap.size := hB.size
    have hn' : Hid (n = (([] : List Nat) ++ xs).length) := Lib.hid (by rw [hn.out]; rfl)
    have he : ∀ u : World, (binOp .eql 32 (.slice (some ad) n c) (.slice none 0 0)).run Try.prog u = .ok (.bool false) u := fun u => Lib.run_eql_slice_nil (P := Try.prog) u 32 22 (some ad) n c 0 0 Try.underlying32
    clear hx hB hl
    go_enter Try.func20, Try.ntmps20
    go_wp2_with (at_builtin; go_must (refine wpList_append_W Try.underlying32 infoU rfl uV (fun _ => rfl) _ rfl (.tmp 5) (.tmp 6) rfl (by rfl) (by rfl) hn.out HO.out HX.out h63 hzz hn' ?_))
    intro A1 c1 w5 ho5 hg5
    have HO5 : Hid (OwnW 22 uV w5 w.heap.size (.slice A1 n c1) xs) := Lib.hid ho5
    have HB5 : Hid (Below w.heap.size w w5) := Lib.hid (HB.out.grown hg5 hzz (fun g e => (World.ownsRow.lt HO.out g e).1))
    clear ho5 hg5 h63 hzz
    have HR5 : Hid (RdW uV w5 (.slice A1 n c1) xs) := Lib.hid HO5.out.rd
    go_wp2
    go_ret
    exact ⟨A1, c1, rfl, HR5.out, HB5.out⟩

set_option maxRecDepth 100000 in
set_option maxHeartbeats 1600000 in
/-- Two rows that read the same are equal. -/
theorem equalU_same (v1 v2 : Value) (xs : List Nat) (w : World) (h1 : RdW uV w v1 xs) (h2 : RdW uV w v2 xs) (hl : xs.length ≤ 1099511627776) :
    Calls Try.prog 16 #[v1, v2] w fun e w' => e = .returned (.bool true) ∧ Below w.heap.size w w' := by
  obtain ⟨A, c, rfl, hc, hx⟩ := h1
  obtain ⟨B, k2, rfl, hc2, hy⟩ := h2
  obtain ⟨n, hn⟩ : ∃ n, Hid (n = xs.length) := ⟨_, Lib.hid rfl⟩
  rw [← hn.out] at hl hc hc2 ⊢
  have HX := Lib.hid hx
  have HY := Lib.hid hy
  clear hx hy
  go_enter Try.func16, Try.ntmps16
  go_wp2
  go_loopw [13] (fun i wr => ∃ k : Nat, k ≤ n ∧ i = .int .i64 k ∧ Below w.heap.size w wr) (fun i _ => n - (intOf i).toNat)
  case atStart => exact ⟨0, Nat.zero_le _, rfl, Below.refl _ _⟩
  case round =>
    obtain ⟨k, hk, rfl, hb⟩ := hrel
    by_cases hlt : k < n
    · obtain ⟨d, hd⟩ : ∃ d, xs[k]? = some d := ⟨xs[k]'(by have := hn.out; omega), List.getElem?_eq_getElem _⟩
      obtain ⟨ad, rfl, ha, d0⟩ := HX.out.below hb (Nat.le_refl _) k d hd
      obtain ⟨bd, rfl, hb', e0⟩ := HY.out.below hb (Nat.le_refl _) k d hd
      have b0 : (0 : Int) ≤ (k : Int) := by omega
      have b1 : (k : Int) < (n : Int) := by omega
      have d0' : wr.cell? (ad.add k) = some (.int .u64 (d : Int)) := d0
      have e0' : wr.cell? (bd.add k) = some (.int .u64 (d : Int)) := e0
      have HB := Lib.hid hb
      clear hd hb d0 e0
      go_wp2_with fail
      go_quiet (fail)
      go_wp2
      go_roundw
      case rel => exact ⟨k + 1, by omega, by go_num, by first | exact HB.out.drew | exact ⟨HB.out.os, HB.out.tape, HB.out.output, HB.out.size, HB.out.block⟩⟩
      case measure => simp [intOf]; omega
    · obtain rfl : k = n := by omega
      go_wp2
      go_ret
      exact ⟨rfl, hb⟩
end Go.Proofs.Ytaihkehbpppngaa
