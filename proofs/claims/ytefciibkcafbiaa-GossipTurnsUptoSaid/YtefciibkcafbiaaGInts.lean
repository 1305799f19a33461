/- Rows of numbers; slices.Clone of numbers. -/
import Derived.Test.YtefciibkcafbiaaGNums
import Derived.Lib.AppendStr
namespace Go.Proofs.Ytefciibkcafbiaa
open Go.RowKit Go.Sort Go.BigFrame

def iV (x : Int) : Value := .int .i64 x
def RdWA (f : Int → Value) (w : World) (hi : Nat) (A : Option Addr) (xs : List Int) : Prop := ∀ (j : Nat) (x : Int), xs[j]? = some x → ∃ ad : Addr, A = some ad ∧ ad.block < hi ∧ w.cell? (ad.add j) = some (f x)
/-- The slice value reads as these words. -/
def RdW (f : Int → Value) (w : World) (v : Value) (xs : List Int) : Prop := ∃ A c, v = .slice A xs.length c ∧ xs.length ≤ c ∧ RdWA f w w.heap.size A xs
theorem RdWA.below {f : Int → Value} {w w' : World} {hi : Nat} {A : Option Addr} {xs : List Int} (h : RdWA f w hi A xs) {B : Nat} (hb : Below B w w') (hB : hi ≤ B) : RdWA f w' hi A xs := fun j d hd => by
  obtain ⟨ad, e, h0, h1⟩ := h j d hd
  exact ⟨ad, e, h0, (hb.cell (by rw [add_block]; omega)).trans h1⟩
theorem RdWA.mono {f : Int → Value} {w : World} {hi hi' : Nat} {A : Option Addr} {xs : List Int} (h : RdWA f w hi A xs) (hh : hi ≤ hi') : RdWA f w hi' A xs := fun j d hd => by
  obtain ⟨ad, e, h0, h1⟩ := h j d hd
  exact ⟨ad, e, Nat.lt_of_lt_of_le h0 hh, h1⟩
theorem RdW.below {f : Int → Value} {w w' : World} {v : Value} {xs : List Int} (h : RdW f w v xs) (hb : Below w.heap.size w w') : RdW f w' v xs := by
  obtain ⟨A, c, e, hc, hx⟩ := h
  exact ⟨A, c, e, hc, (hx.below hb (Nat.le_refl _)).mono hb.size⟩
/-- A slice of the call's own that holds these words. -/
def OwnW (T : TypeId) (f : Int → Value) (w : World) (base : Nat) (v : Value) (xs : List Int) : Prop := w.ownsRow base T 1 v xs.length (xs.map f)
theorem OwnW.rd {T : TypeId} {f : Int → Value} {w : World} {base : Nat} {v : Value} {xs : List Int} (h : OwnW T f w base v xs) : RdW f w v xs := by
  rcases h.2 with ⟨rfl, hn⟩ | ⟨g, cap, cur, rfl, hb, hg, hc, _⟩
  · have : xs = [] := List.length_eq_zero_iff.1 hn
    subst this
    exact ⟨none, 0, rfl, Nat.le_refl _, fun j d hd => by simp at hd⟩
  · refine ⟨_, cap, rfl, hc, fun j d hd => ⟨⟨g, 0, none⟩, rfl, (World.ownsRow.lt h g rfl).2, ?_⟩⟩
    exact World.ownsRow.cells h (g := g) rfl j _ (by rw [List.getElem?_map, hd]; rfl)
theorem OwnW.below {T : TypeId} {f : Int → Value} {w w' : World} {base : Nat} {v : Value} {xs : List Int} (h : OwnW T f w base v xs) (hb : Below w.heap.size w w') : OwnW T f w' base v xs := by
  refine World.ownsRow.kept (row := none) h ⟨hb.os, hb.tape, hb.output, hb.size, fun k hk _ => hb.block k hk⟩ ?_
  cases v.ownBlock <;> simp
theorem ownW_nil (T : TypeId) (f : Int → Value) (w : World) (base : Nat) : OwnW T f w base (.slice none 0 0) [] := World.ownsRow_nil w base T 1
theorem OwnW.slice {T : TypeId} {f : Int → Value} {w : World} {base : Nat} {v : Value} {xs : List Int} (h : OwnW T f w base v xs) : ∃ A c, v = .slice A xs.length c := by
  rcases h.2 with ⟨rfl, h0⟩ | ⟨g, cap, cur, rfl, _⟩
  · exact ⟨none, 0, by rw [h0]⟩
  · exact ⟨_, _, rfl⟩

theorem wpList_append_W {ST T : TypeId} (ht : Try.prog.underlying ST = some (.slice T)) {z : Value} (hT : (Try.prog.info? T).map (fun i => (i.zero, i.size, i.bytes)) = some (some z, 1, 8)) (hzs : z.cells.size = 1) (f : Int → Value) (hf : ∀ x, (f x).oneCell' = true)
    {ops : Array Oper} {rest : List Oper} {o : Oper} {a : Act} {Q : Exit → Act → World → Prop} (w : World) (hgd : o.guard = none) (s x : Operand)
    (ho : o.op = .call { callee := .builtin .append, args := #[s, x], argTypes := #[ST, ST] })
    {base hi : Nat} {v : Value} {xs ys : List Int} {ad : Addr} {m c : Nat} (hs : a.eval s = v) (hx : a.eval x = .slice (some ad) m c) (hm : m = ys.length) (hown : OwnW T f w base v xs) (hr : RdWA f w hi (some ad) ys)
    (h63 : xs.length + ys.length ≤ 4398046511104) (hbase : base ≤ w.heap.size) {m' : Nat} (hm' : Hid (m' = (xs ++ ys).length))
    (h : ∀ A1 c1 w', OwnW T f w' base (.slice A1 m' c1) (xs ++ ys) → w.grownBy w' v.ownBlock → wpList Try.prog ops Q rest (a.put o.dst (.slice A1 m' c1)) w') :
    wpList Try.prog ops Q (o :: rest) a w := by
  subst hm
  refine wpList_plain hgd fun K hK => ?_
  obtain ⟨i, hi, hz0, hz1, hz2⟩ := info_parts hT
  have hn : ∀ j u, (ys.map f)[j]? = some u → w.cell? (ad.add j) = some u := by
    intro j u hj
    rw [List.getElem?_map] at hj
    obtain ⟨y, hy, rfl⟩ := Option.map_eq_some_iff.1 hj
    obtain ⟨ad', e, _, hc⟩ := hr j y hy
    injection e with e
    subst e
    exact hc
  obtain ⟨v', w', hrun, h2, h3, _, h5⟩ := run_append_own_at (P := Try.prog) w base ST o.type T i z 1 8 ht hi hz0 hz1 hz2 hzs (by decide) v xs.length (xs.map f) hown ad ys.length c (ys.map f) (by simp) hn (by intro u hu; obtain ⟨y, _, rfl⟩ := List.mem_map.1 hu; exact hf y) (by simp only [maxLen]; omega) (by omega) hbase
  unfold Oper.wp execOp
  simp only [ho, resolve, invoke, builtin, Sem.run_bind, Sem.run_pure, Result.andThen_ok, List.map_toArray, List.map_cons, List.map_nil, hs, hx, hrun]
  have h2' : OwnW T f w' base v' (xs ++ ys) := by unfold OwnW; rw [List.length_append, List.map_append]; exact h2
  obtain ⟨A1, c1, rfl⟩ := h2'.slice
  rw [← hm'.out] at h2' ⊢
  exact hK _ _ (h A1 c1 w' h2' h3)

theorem infoI : (Try.prog.info? 3).map (fun i => (i.zero, i.size, i.bytes)) = some (some (.int .i64 0), 1, 8) := by kernel_rfl

set_option maxRecDepth 100000 in
set_option maxHeartbeats 1600000 in
theorem cloneI_any (v : Value) (xs : List Int) (w : World) (h : RdW iV w v xs) (hl : xs.length ≤ 1099511627776) :
    Calls Try.prog 12 #[v] w fun e w' => ∃ A c, e = .returned (.slice A xs.length c) ∧ RdW iV w' (.slice A xs.length c) xs ∧ Below w.heap.size w w' := by
  obtain ⟨A, c, rfl, hc, hx⟩ := h
  cases A with
  | none =>
    have e : xs = [] := by
      cases xs with
      | nil => rfl
      | cons x r => obtain ⟨ad, e, _⟩ := hx 0 x rfl; cases e
    subst e
    have he : ∀ u : World, (binOp .eql 30 (.slice none 0 c) (.slice none 0 0)).run Try.prog u = .ok (.bool true) u := fun u => Lib.run_eql_slice_nil (P := Try.prog) u 30 3 none 0 c 0 0 Try.underlying30
    go_enter Try.func12, Try.ntmps12
    go_wp2
    go_ret
    exact ⟨none, 0, rfl, ⟨none, 0, rfl, Nat.le_refl _, fun j d hd => by simp at hd⟩, Below.refl _ _⟩
  | some ad =>
    obtain ⟨n, hn⟩ : ∃ n, Hid (n = xs.length) := ⟨_, Lib.hid rfl⟩
    rw [← hn.out] at hl hc ⊢
    have hB : Below w.heap.size w (w.alloc (.cells #[] 3)) := (Below.refl _ _).alloc (Nat.le_refl _) _
    have HO : Hid (OwnW 3 iV (w.alloc (.cells #[] 3)) w.heap.size (.slice (some ⟨w.heap.size, 0, none⟩) 0 0) []) := Lib.hid ⟨rfl, .inr ⟨w.heap.size, 0, #[], rfl, Nat.le_refl _, heap_alloc_new w _, Nat.le_refl _, by decide, rfl, rfl⟩⟩
    have HX : Hid (RdWA iV (w.alloc (.cells #[] 3)) w.heap.size (some ad) xs) := Lib.hid (hx.below hB (Nat.le_refl _))
    have HB := Lib.hid hB
    have h63 : ([] : List Int).length + xs.length ≤ 4398046511104 := by have := hn.out; simp only [List.length_nil]; omega
    have hzz : w.heap.size ≤ (w.alloc (.cells #[] 3)).heap.size := hB.size
    have hn' : Hid (n = (([] : List Int) ++ xs).length) := Lib.hid (by rw [hn.out]; rfl)
    have he : ∀ u : World, (binOp .eql 30 (.slice (some ad) n c) (.slice none 0 0)).run Try.prog u = .ok (.bool false) u := fun u => Lib.run_eql_slice_nil (P := Try.prog) u 30 3 (some ad) n c 0 0 Try.underlying30
    clear hx hB hl
    go_enter Try.func12, Try.ntmps12
    go_wp2_with (at_builtin; go_must (refine wpList_append_W Try.underlying30 infoI rfl iV (fun _ => rfl) _ rfl (.tmp 5) (.tmp 6) rfl (by rfl) (by rfl) hn.out HO.out HX.out h63 hzz hn' ?_))
    intro A1 c1 w5 ho5 hg5
    have HO5 : Hid (OwnW 3 iV w5 w.heap.size (.slice A1 n c1) xs) := Lib.hid ho5
    have HB5 : Hid (Below w.heap.size w w5) := Lib.hid (HB.out.grown hg5 hzz (fun g e => (World.ownsRow.lt HO.out g e).1))
    clear ho5 hg5 h63 hzz
    have HR5 : Hid (RdW iV w5 (.slice A1 n c1) xs) := Lib.hid HO5.out.rd
    go_wp2
    go_ret
    exact ⟨A1, c1, rfl, HR5.out, HB5.out⟩

theorem RdZ.w {w : World} {A : Option Addr} {zs : List Int} (h : RdZ w A zs) : RdWA iV w w.heap.size A zs := fun j z hz => by
  obtain ⟨ad, e, hlt, hc, _⟩ := h j z hz
  exact ⟨ad, e, hlt, hc⟩
theorem RdZ.of {w w0 : World} {A A0 : Option Addr} {zs : List Int} (h0 : RdZ w0 A0 zs) (h : RdWA iV w w.heap.size A zs) : RdZ w A zs := fun j z hz => by
  obtain ⟨ad, e, hlt, hc⟩ := h j z hz
  obtain ⟨_, _, _, _, hb⟩ := h0 j z hz
  exact ⟨ad, e, hlt, hc, hb⟩
theorem clone_ints (A : Option Addr) (zs : List Int) (c : Nat) (w : World) (h : RdZ w A zs) (hc : zs.length ≤ c) (hl : zs.length ≤ 1048576) :
    Calls Try.prog 12 #[.slice A zs.length c] w fun e w' => ∃ A' c', e = .returned (.slice A' zs.length c') ∧ RdZ w' A' zs ∧ Below w.heap.size w w' := by
  refine (cloneI_any (.slice A zs.length c) zs w ⟨A, c, rfl, hc, h.w⟩ (by omega)).mono fun e w' hp => ?_
  obtain ⟨A', c', he, ⟨A2, c2, e2, _, hx⟩, hb⟩ := hp
  injection e2 with e3 e4 e5
  subst e3
  exact ⟨A', c', he, RdZ.of h hx, hb⟩
end Go.Proofs.Ytefciibkcafbiaa
