/- The program is awake: a small disk is made, written, synced and read. -/
import Derived.Test.YtaignkjcogmcjaaDAppend2
namespace Go.Proofs.Ytaignkjcogmcjaa
open Go.RowKit
open Go.Lib (byteCells byteCells_length)

/-- All that a disk has lies from block B on. -/
def High (B : Nat) (tag : Nat → Option Tag) : Prop := ∀ k, tag k ≠ none → B ≤ k
theorem High.wider {B : Nat} {a : World} {tag tag' : Nat → Option Tag} (h : High B tag) (hw : Wider a tag tag') (hB : B ≤ a.heap.size) : High B tag' := fun k hk => by
  rcases hw k hk with h1 | h1
  · exact h k h1
  · omega
theorem Turned.below {B : Nat} {w a b : World} {tag : Nat → Option Tag} (h : Turned a b tag) (hh : High B tag) (hb : Below B w a) (hB : B ≤ a.heap.size) : Below B w b :=
  ⟨h.os.trans hb.os, h.tape.trans hb.tape, h.output.trans hb.output, Nat.le_trans hb.size h.size, fun k hk => (h.block k (by omega) (by
    cases e : tag k with
    | none => rfl
    | some t => have := hh k (by rw [e]; simp); omega)).trans (hb.block k hk)⟩

theorem rd_two (w : World) (x y : Int) (a b : UInt8) (ha : x = (a.toNat : Int)) (hb : y = (b.toNat : Int)) : Rd (w.alloc (.cells #[.int .u8 x, .int .u8 y] 5)) 0 (w.heap.size + 1) (.slice (some ⟨w.heap.size, 0, none⟩) 2 2) [a, b] := by
  subst ha; subst hb
  refine ⟨_, 2, rfl, Nat.le_refl _, fun _ => ⟨_, rfl, Nat.zero_le _, Nat.lt_succ_self _, fun j u hu => ?_⟩⟩
  have hr := fun i => cell_of_row _ w.heap.size i _ _ (0, 0) (heap_alloc_new w (.cells #[.int .u8 (a.toNat : Int), .int .u8 (b.toNat : Int)] 5))
  have e : (⟨w.heap.size, 0, none⟩ : Addr).add j = ⟨w.heap.size, j, none⟩ := by unfold Addr.add; split <;> simp_all
  rw [e]
  match j, hu with
  | 0, hu => simp [byteCells] at hu; subst hu; exact hr 0
  | 1, hu => simp [byteCells] at hu; subst hu; exact hr 1
  | j + 2, hu => simp [byteCells] at hu

def aS : ByteArray := ⟨#[97]⟩
theorem aS_list : aS.data.toList = [97] := rfl
def f0 : List FileA := [([97], [7, 8], 0)]
def f2 : List FileA := [([97], [7, 8], 2)]
theorem a_app : appC 9 [] [97] [7, 8] = 0 ∧ appF 9 [] [97] [7, 8] = f0 := by
  constructor
  · decide +kernel
  · rfl
theorem a_sync : codeF f0 [97] = 0 ∧ syncF f0 [97] = f2 := by
  constructor
  · decide +kernel
  · rfl

set_option maxRecDepth 100000 in
set_option maxHeartbeats 1600000 in
theorem awake_any (w : World) : Calls Try.prog 12 #[] w fun e w' => e = .returned (.bool true) ∧ Below w.heap.size w w' := by
  have HN := Lib.hid (new_yes 9 (by decide) (by decide) w)
  go_enter Try.func12, Try.ntmps12
  go_wp2_with fail
  (with_reducible refine HN.out.mono ?_); rintro e w1 ⟨hb1, d, tag, rfl, hh1, hg1⟩
  have hbA : Below w1.heap.size w1 (w1.alloc (.cells #[.int .u8 7, .int .u8 8] 5)) := (Below.refl _ _).alloc (Nat.le_refl _) _
  have h1 : Holds (w1.alloc (.cells #[.int .u8 7, .int .u8 8] 5)) tag d 9 [] := hh1.same hbA.size fun k hk => hbA.block k (hh1.tags k hk)
  have hap := append_made h1 aS (by decide) _ [7, 8] ((rd_two w1 7 8 7 8 (by decide) (by decide)).mono (Nat.le_refl _) (by simp)) (by decide)
  rw [aS_list, a_app.1, a_app.2] at hap
  unfold aS at hap
  have HAP := Lib.hid hap
  have HB1 := Lib.hid hb1
  have HBA := Lib.hid hbA
  have HG1 := Lib.hid hg1
  clear hap hb1 hbA hg1 hh1 h1
  go_wp2_with fail
  (with_reducible refine HAP.out.mono ?_); rintro e w2 ⟨rfl, tag2, h2, t2, wd2⟩
  have hsy := sync_made h2 aS (by decide)
  rw [aS_list, a_sync.1, a_sync.2] at hsy
  unfold aS at hsy
  have HSY := Lib.hid hsy
  have T2 := Lib.hid t2
  have WD2 := Lib.hid wd2
  clear hsy h2 t2 wd2
  go_wp2_with fail
  (with_reducible refine HSY.out.mono ?_); rintro e w3 ⟨rfl, tag3, h3, t3, wd3⟩
  have hrd := read_made h3 aS (by decide)
  rw [aS_list] at hrd
  unfold aS at hrd
  have HRD := Lib.hid hrd
  clear hrd
  have H3 := Lib.hid h3
  have T3 := Lib.hid t3
  have WD3 := Lib.hid wd3
  clear h3 t3 wd3
  go_wp2_with fail
  (with_reducible refine HRD.out.mono ?_); rintro e w4 ⟨hb4, (⟨hc, rfl⟩ | ⟨hc, hl, rfl⟩ | ⟨hc, x, v, hl, rfl, hown⟩)⟩
  · exact absurd hc (by decide)
  · cases hl
  · obtain rfl : x = ([7, 8], 2) := by
      injection hl with hl
      exact hl.symm
    have hown' : w4.ownsRow w3.heap.size 5 1 v 2 [.int .u8 7, .int .u8 8] := hown
    obtain ⟨g, c, rfl, hcc, hx⟩ := World.ownsRow.form hown' (by decide)
    have had : w4.cell? ⟨g, 1, none⟩ = some (.int .u8 8) := (World.ownsRow.cellAt hown' 1 (by decide)).trans rfl
    clear hown'
    have h4 : Holds w4 tag3 d 9 f2 := H3.out.same hb4.size fun k hk => hb4.block k (H3.out.tags k hk)
    have hus := used_made h4
    rw [show used f2 = 2 from rfl] at hus
    have HUS := Lib.hid hus
    have HB4 := Lib.hid hb4
    clear hus h4 hb4 hc hl hx hown
    go_wp2_with fail
    (with_reducible refine HUS.out.mono ?_); rintro e w5 ⟨rfl, hb5⟩
    go_wp2
    go_ret
    have BA : Below w.heap.size w (w1.alloc (.cells #[.int .u8 7, .int .u8 8] 5)) := HB1.out.alloc HB1.out.size _
    have B2 := T2.out.below HG1.out BA (Nat.le_trans HB1.out.size (by simp))
    have G2 := High.wider (B := w.heap.size) HG1.out WD2.out (Nat.le_trans HB1.out.size (by simp))
    have B3 := T3.out.below G2 B2 B2.size
    exact ⟨rfl, (B3.trans (HB4.out.mono B3.size)).trans (hb5.mono (Nat.le_trans B3.size HB4.out.size))⟩
end Go.Proofs.Ytaignkjcogmcjaa
