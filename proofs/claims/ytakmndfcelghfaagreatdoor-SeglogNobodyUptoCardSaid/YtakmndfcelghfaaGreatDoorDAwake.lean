/- The program is awake: a small disk is made, written, synced and read. -/
import Derived.Test.YtakmndfcelghfaaGreatDoorDAppend2
namespace Go.Proofs.YtakmndfcelghfaaGreatDoor
open Go.RowKit
open Go.Lib (byteCells byteCells_length)

/-- All that a disk has lies from block B on. -/
def High (B : Nat) (tag : Nat → Option Tag) : Prop := ∀ k, tag k ≠ none → B ≤ k
theorem High.wider {B : Nat} {a : World} {tag tag' : Nat → Option Tag} (h : High B tag) (hw : Wider a tag tag') (hB : B ≤ a.heap.size) : High B tag' := fun k hk => by
  rcases hw k hk with h1 | h1
  · exact h k h1
  · omega
theorem Turned.below {B : Nat} {w a b : World} {tag : Nat → Option Tag} (h : Turned a b tag) (hh : High B tag) (hb : Below B w a) (hB : B ≤ a.heap.size) : Below B w b :=
  ⟨h.os.trans hb.os, h.tape.trans hb.tape, h.output.trans hb.output, Nat.le_trans hb.size h.size, fun k hk => (h.block k (by omega) (by
    cases e : tag k with
    | none => rfl
    | some t => have := hh k (by rw [e]; simp); omega)).trans (hb.block k hk)⟩

theorem rd_two (w : World) (x y : Int) (a b : UInt8) (ha : x = (a.toNat : Int)) (hb : y = (b.toNat : Int)) : Rd (w.alloc (.cells #[.int .u8 x, .int .u8 y] 5)) 0 (w.heap.size + 1) (.slice (some ⟨w.heap.size, 0, none⟩) 2 2) [a, b] := by
  subst ha; subst hb
  refine ⟨_, 2, rfl, Nat.le_refl _, fun _ => ⟨_, rfl, Nat.zero_le _, Nat.lt_succ_self _, fun j u hu => ?_⟩⟩
  have hr := fun i => cell_of_row _ w.heap.size i _ _ (0, 0) (heap_alloc_new w (.cells #[.int .u8 (a.toNat : Int), .int .u8 (b.toNat : Int)] 5))
  have e : (⟨w.heap.size, 0, none⟩ : Addr).add j = ⟨w.heap.size, j, none⟩ := by unfold Addr.add; split <;> simp_all
  rw [e]
  match j, hu with
  | 0, hu => simp [byteCells] at hu; subst hu; exact hr 0
  | 1, hu => simp [byteCells] at hu; subst hu; exact hr 1
  | j + 2, hu => simp [byteCells] at hu

def aS : ByteArray := ⟨#[97]⟩
theorem aS_list : aS.data.toList = [97] := rfl
def f0 : List FileA := [([97], [7, 8], 0)]
def f2 : List FileA := [([97], [7, 8], 2)]
theorem a_app : appC 9 [] [97] [7, 8] = 0 ∧ appF 9 [] [97] [7, 8] = f0 := by
  constructor
  · decide +kernel
  · rfl
theorem a_sync : codeF f0 [97] = 0 ∧ syncF f0 [97] = f2 := by
  constructor
  · decide +kernel
  · rfl

end Go.Proofs.YtakmndfcelghfaaGreatDoor
