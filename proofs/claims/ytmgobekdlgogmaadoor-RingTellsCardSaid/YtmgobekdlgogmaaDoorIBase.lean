/- What the texts of the seat of ident share. -/
import Derived.Test.YtmgobekdlgogmaaDoorBase
import Derived.Test.YtmgobekdlgogmaaDoorHash
import Derived.WalkKit
import Derived.Handy
import Derived.Below
import Derived.Lib.Hide
import Derived.Lib.SliceRun
import Derived.Lib.UnsafeStr
import Derived.Deep.QuietTactic
import Derived.BigQuiet
import Derived.Outline
import Derived.WalkLawsBesides
import Derived.WalkSpells
import Derived.Laws.BitsAllLaws
import Derived.Laws.Bits64
namespace Go.Proofs.YtmgobekdlgogmaaDoor
open Go.RowKit

theorem ret_int {k : IntKind} {a b : Int} (h : a = b) : Ending.returned (.int k a) = .returned (.int k b) := by rw [h]
theorem val_int {k : IntKind} {a b : Int} (h : a = b) : Value.int k a = .int k b := by rw [h]
theorem ret_bool {a b : Bool} (h : a = b) : Ending.returned (.bool a) = .returned (.bool b) := by rw [h]

/-- What the program's tables hold, as far as it is read. -/
structure Tabs (w : World) : Prop where
  big : 3 ≤ w.heap.size
  turns : ∃ t fr, w.heap[(0 : Nat)]? = some (.cells #[.int .u64 18397679294719823053, .int .u64 14181476777654086739, .int .u64 1] t fr)
  b0 : w.cell? ⟨2, 0, none⟩ = some (.int .u8 0)
  b1 : w.cell? ⟨2, 1, none⟩ = some (.int .u8 1)
  b2 : w.cell? ⟨2, 3, none⟩ = some (.int .u8 2)
  b3 : w.cell? ⟨2, 7, none⟩ = some (.int .u8 3)
  b4 : w.cell? ⟨2, 15, none⟩ = some (.int .u8 4)
  b5 : w.cell? ⟨2, 31, none⟩ = some (.int .u8 5)
  b6 : w.cell? ⟨2, 63, none⟩ = some (.int .u8 6)

theorem Tabs.below {w w' : World} {B : Nat} (h : Tabs w) (hb : Below B w w') (hB : 3 ≤ B) : Tabs w' := by
  have hc : ∀ b o, b < 3 → w'.cell? ⟨b, o, none⟩ = w.cell? ⟨b, o, none⟩ := fun b o hl => hb.cell (p := ⟨b, o, none⟩) (show b < B by omega)
  obtain ⟨t, fr, e⟩ := h.turns
  exact ⟨Nat.le_trans h.big hb.size, ⟨t, fr, (hb.block _ (show (0 : Nat) < B by omega)).trans e⟩, (hc _ _ (by decide)).trans h.b0, (hc _ _ (by decide)).trans h.b1, (hc _ _ (by decide)).trans h.b2, (hc _ _ (by decide)).trans h.b3, (hc _ _ (by decide)).trans h.b4, (hc _ _ (by decide)).trans h.b5, (hc _ _ (by decide)).trans h.b6⟩

/-- How many bits are set: as math/bits computes it. -/
def popA (x : Int) : Int := IntKind.u64.wrap (bits .and .u64 (x / 2) 6148914691236517205 + bits .and .u64 x 6148914691236517205)
def popB (x : Int) : Int := IntKind.u64.wrap (bits .and .u64 (x / 4) 3689348814741910323 + bits .and .u64 x 3689348814741910323)
def popC (x : Int) : Int := bits .and .u64 (IntKind.u64.wrap (x / 16 + x)) 1085102592571150095
def popD (k x : Int) : Int := IntKind.u64.wrap (x + x / k)
def pop (x : Int) : Int := bits .and .i64 (wrap64 (popD 4294967296 (popD 65536 (popD 256 (popC (popB (popA x))))))) 127
/-- Is it one of the numbers of parts? -/
def isPow (x : Int) : Bool := x == 1 || x == 2 || x == 4 || x == 8 || x == 16 || x == 32 || x == 64
theorem pop_all : (List.range 65).all (fun n => (pop n == 1) == isPow n) = true := by decide +kernel
theorem pop_is (n : Nat) (h : n ≤ 64) : (pop n == 1) = isPow n := beq_iff_eq.1 (List.all_eq_true.1 pop_all n (List.mem_range.2 (by omega)))
theorem isPow_cases {x : Int} (h : isPow x = true) : x = 1 ∨ x = 2 ∨ x = 4 ∨ x = 8 ∨ x = 16 ∨ x = 32 ∨ x = 64 := by
  simp only [isPow, Bool.or_eq_true, beq_iff_eq] at h
  omega

set_option maxHeartbeats 400000 in
theorem pop64_any (x : Nat) (w : World) :
    Calls Tryd.prog 77 #[.int .u64 x] w fun e w' => e = .returned (.int .i64 (pop x)) ∧ w = w' := by
  go_enter Tryd.func77, Tryd.ntmps77
  go_wp2
  go_ret
  exact ⟨ret_int rfl, rfl⟩

theorem ones_any (x : Nat) (w : World) :
    Calls Tryd.prog 66 #[.int .u64 x] w fun e w' => e = .returned (.int .i64 (pop x)) ∧ w = w' := by
  go_enter Tryd.func66, Tryd.ntmps66
  go_wp2_with fail
  refine (pop64_any x w).mono ?_
  rintro e w' ⟨rfl, rfl⟩
  go_wp2
  go_ret
  exact ⟨rfl, rfl⟩
end Go.Proofs.YtmgobekdlgogmaaDoor
