/- codes.Numbers: what it puts behind bytes of the caller's own. -/
import Derived.Test.YtnlohijpcnoamaaKPut
namespace Go.Proofs.Ytnlohijpcnoamaa
open Go.RowKit
open Go.Lib (byteCells byteCells_length byteCells_append strCells strCells_eq)

/-- Numbers one behind another. -/
def nums (ns : List Int) : List UInt8 := ns.flatMap fun n => num n.toNat
theorem nums_append (a b : List Int) : nums (a ++ b) = nums a ++ nums b := List.flatMap_append
theorem nums_one (n : Int) : nums [n] = num n.toNat := by simp [nums]
theorem nums_length (ns : List Int) : (nums ns).length ≤ 9 * ns.length := by
  induction ns with
  | nil => simp [nums]
  | cons n ns ih =>
    have := num_length n.toNat
    rw [show n :: ns = [n] ++ ns from rfl, nums_append, nums_one, List.length_append, List.length_append, List.length_singleton]; omega

/-- The cells of block g, from the first on, are these numbers. -/
def NRow (w : World) (g : Nat) (ns : List Int) : Prop := ∀ (j : Nat) (n : Int), ns[j]? = some n → w.cell? ⟨g, j, none⟩ = some (.int .i64 n)

theorem nums_take {ns : List Int} {k : Nat} {d : Int} (h : ns[k]? = some d) : nums (ns.take (k + 1)) = nums (ns.take k) ++ num d.toNat := by
  rw [List.take_add_one, h, nums_append]; simp [nums]

set_option maxRecDepth 100000 in
set_option maxHeartbeats 1600000 in
theorem numbers_any (base g : Nat) (v : Value) (bs : List UInt8) (ns : List Int) (n c : Nat) (w : World) (h : Own w base v bs) (hb0 : base ≤ w.heap.size) (hg : g < w.heap.size) (hne : v.ownBlock ≠ some g) (hr : NRow w g ns) (hn : n = ns.length)
    (hl : bs.length ≤ 1099511627776) (hk : n ≤ 16) (hm : ∀ x ∈ ns, x ≤ 9223372036854775807) :
    Calls Try.prog 21 #[v, .slice (some ⟨g, 0, none⟩) n c] w (Puts base (bs ++ nums ns) w) := by
  have HO0 := Lib.hid h
  have HNE0 := Lib.hid hne
  have HR0 := Lib.hid hr
  have HN := Lib.hid hn
  have HM := Lib.hid hm
  clear h hne hr hn hm
  go_enter Try.func21, Try.ntmps21
  go_wp2
  go_loopw [9, 0] (fun i x wr => ∃ (k : Nat), k ≤ n ∧ i = .int .i64 k ∧ Hid (Own wr base x (bs ++ nums (ns.take k))) ∧ Hid (_root_.Go.Value.ownBlock x ≠ some g) ∧ Hid (NRow wr g ns) ∧ Below base w wr ∧ w.heap.size ≤ wr.heap.size) (fun i _ _ => n - (intOf i).toNat)
  case atStart => exact ⟨0, Nat.zero_le _, rfl, Lib.hid (by simpa [nums] using HO0.out), HNE0, HR0, Below.refl _ _, Nat.le_refl _⟩
  case round =>
    obtain ⟨k, hk1, rfl, HO, HNE, HR, hb, hsz⟩ := hrel
    have HB := Lib.hid hb
    have hbs : base ≤ wr.heap.size := by omega
    clear hb
    by_cases hlt : k < n
    · obtain ⟨d, hd⟩ : ∃ d, ns[k]? = some d := ⟨ns[k]'(by have := HN.out; omega), List.getElem?_eq_getElem _⟩
      have hcell := HR.out k d hd
      have hdm : d ≤ 9223372036854775807 := HM.out d (List.mem_of_getElem? hd)
      have HT := Lib.hid (nums_take hd)
      have hlen : (bs ++ nums (ns.take k)).length ≤ 1099511628000 := by
        have := nums_length (ns.take k)
        rw [List.length_append]
        have h2 := List.length_take_le k ns
        omega
      clear hd
      go_wp2_with fail
      refine (put_any (.slice none 0 0) [] d wr (own_nil wr 0).rd (by simp) hdm).mono ?_
      rintro e w2 ⟨v2, rfl, hown2, hb2⟩
      have hnl := num_length d.toNat
      have HO2 := Lib.hid (HO.out.below hb2)
      obtain ⟨A2, c2, rfl, hc2, hx2⟩ := hown2.rd
      have hlt2 := HO.out.lt
      go_wp2_with (at_builtin; go_must (refine wpList_append_rd _ rfl (.tmp 13) (.tmp 15) rfl rfl HO2.out rfl rfl hx2 ?_ ?_ ?_))
      case _ => simp at hlen ⊢; omega
      case _ => exact Nat.le_trans hbs hb2.size
      intro v5 w5 ho5 hg5 ht5
      have HO5 : Hid (Own w5 base v5 (bs ++ nums (ns.take (k + 1)))) := Lib.hid (by rw [HT.out]; simpa using ho5)
      have HB5 : Hid (Below base w w5) := Lib.hid ((HB.out.trans (hb2.mono hbs)).grown hg5 (Nat.le_trans hbs hb2.size) (fun g e => (hlt2 g e).1))
      have HNE5 : Hid (_root_.Go.Value.ownBlock v5 ≠ some g) := Lib.hid (by
        rcases ht5 with e | e
        · rw [e]; exact HNE.out
        · rw [e]; intro e2; have := Option.some.inj e2; have := hb2.size; omega)
      have HR5 : Hid (NRow w5 g ns) := Lib.hid (fun j x hj => by
        rw [World.cell?_of_block (hg5.block g (by have := hb2.size; omega) HNE.out.symm), hb2.cell (by show g < _; omega)]
        exact HR.out j x hj)
      have hs5 : w.heap.size ≤ w5.heap.size := by have := hb2.size; have := hg5.size; omega
      clear ho5 hg5 ht5 hcell hlt2 hown2 hx2
      go_wp2
      go_roundw
      case rel => exact ⟨k + 1, by omega, by go_num, HO5, HNE5, HR5, HB5.out, hs5⟩
      case measure => simp [intOf]; omega
    · have hkn : k = n := by omega
      go_wp2
      go_ret
      exact ⟨_, rfl, by have := HO.out; rw [hkn, HN.out, List.take_length] at this; exact this, HB.out⟩
end Go.Proofs.Ytnlohijpcnoamaa
