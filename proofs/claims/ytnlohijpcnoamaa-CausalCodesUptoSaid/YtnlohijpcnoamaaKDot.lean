/- codes.Dot: a dot's numbers behind bytes of the caller's own. -/
import Derived.Test.YtnlohijpcnoamaaKNumbers
import Derived.Test.YtnlohijpcnoamaaCCloud
namespace Go.Proofs.Ytnlohijpcnoamaa
open Go.RowKit
open Go.Lib (byteCells byteCells_length byteCells_append strCells strCells_eq)

/-- A dot's numbers. -/
def dotN (d : DotA) : List Int := [d.1, d.2.1, d.2.2]
def dotsN (ds : List DotA) : List Int := ds.flatMap dotN

theorem nrow_box (w : World) (g : Nat) (hg : g = w.heap.size) (T : TypeId) (ns : List Int) (cs : Array Value) (hc : cs = (ns.map (fun n => Value.int .i64 n)).toArray) : NRow (w.alloc (.cells cs T)) g ns := fun j n hj => by
  subst hg hc
  rw [box_cell]; simp [hj]

set_option maxRecDepth 100000 in
set_option maxHeartbeats 1600000 in
theorem putDot_any (base : Nat) (v : Value) (bs : List UInt8) (d : DotA) (w : World) (h : Own w base v bs) (hb0 : base ≤ w.heap.size)
    (hl : bs.length ≤ 1099511627776) (h1 : d.1 ≤ 9223372036854775807) (h2 : d.2.1 ≤ 9223372036854775807) (h3 : d.2.2 ≤ 9223372036854775807) :
    Calls Try.prog 22 #[v, .agg #[.int .i64 d.1, .int .i64 d.2.1, .int .i64 d.2.2]] w (Puts base (bs ++ nums (dotN d)) w) := by
  have HO0 := Lib.hid h
  clear h
  go_enter Try.func22, Try.ntmps22
  go_wp2_with fail
  refine (numbers_any base (w.heap.size + 1) v bs (dotN d) 3 3 _ (own_alloc (own_alloc HO0.out _) _) ?_ ?_ ?_ ?_ rfl hl (by omega) ?_).mono ?_
  case _ => simp; omega
  case _ => simp
  case _ => intro e; have := (HO0.out.lt _ e).2; omega
  case _ => exact nrow_box _ _ (by simp) _ _ _ rfl
  case _ => intro x hx; simp [dotN] at hx; omega
  rintro e w2 ⟨v2, rfl, hown2, hb2⟩
  go_wp2
  go_ret
  exact ⟨_, rfl, hown2, (((Below.refl _ _).alloc hb0 _).alloc (by simp; omega) _).trans hb2⟩
end Go.Proofs.Ytnlohijpcnoamaa
