/- What is asked of any ring: the program and the document answer alike. -/
import Derived.Test.YtmgobekdlgogmaaDoorREpoch
namespace Go.Proofs.YtmgobekdlgogmaaDoor
open Go.RowKit Go.Sort Go.BigFrame
open Go.Lib (byteCells byteCells_length)

/-- This value, and nothing turned. -/
def DetR (v : Value) (w : World) (e : Ending) (w' : World) : Prop := e = .returned v ∧ Below w.heap.size w w'
def ringV (p c s : Int) (v : Value) : Value := .agg #[.int .i64 p, .int .i64 c, .int .i64 s, v]

theorem tells_alike (p c s : Int) (ms : List MemA) (node : Int) (key : ByteArray) (h1 : -9223372036854775808 ≤ p) (h2 : p ≤ 9223372036854775807) (hn1 : -9223372036854775808 ≤ node) (hn2 : node ≤ 9223372036854775807) (hs : key.size ≤ 9223372036854775807) (hl : ms.length ≤ 4398046511104) :
    ∃ (k : Int) (ns : List Int) (ep pt : Int), ns.length ≤ 4398046511104 ∧
      (∀ w v, Tabs w → RdM w v ms → Calls Tryd.prog 12 #[.agg #[.int .i64 p, .int .i64 c, .int .i64 s, v]] w (DetR (.int .i64 k) w)) ∧
      (∀ w v, RdM w v ms → Calls Tryd.prog 13 #[.agg #[.int .i64 p, .int .i64 c, .int .i64 s, v]] w (DetR (.int .i64 k) w)) ∧
      (∀ w v, Tabs w → RdM w v ms → Calls Tryd.prog 15 #[.agg #[.int .i64 p, .int .i64 c, .int .i64 s, v]] w (GivesI ns w)) ∧
      (∀ w v, RdM w v ms → Calls Tryd.prog 16 #[.agg #[.int .i64 p, .int .i64 c, .int .i64 s, v]] w (GivesI ns w)) ∧
      (∀ w v, Tabs w → RdM w v ms → Calls Tryd.prog 17 #[.agg #[.int .i64 p, .int .i64 c, .int .i64 s, v], .int .i64 node] w (DetR (.int .i64 ep) w)) ∧
      (∀ w v, RdM w v ms → Calls Tryd.prog 18 #[.agg #[.int .i64 p, .int .i64 c, .int .i64 s, v], .int .i64 node] w (DetR (.int .i64 ep) w)) ∧
      (∀ w v, Tabs w → RdM w v ms → Calls Tryd.prog 19 #[.agg #[.int .i64 p, .int .i64 c, .int .i64 s, v], .string key] w (DetR (.int .i64 pt) w)) ∧
      (∀ w v, RdM w v ms → Calls Tryd.prog 20 #[.agg #[.int .i64 p, .int .i64 c, .int .i64 s, v], .string key] w (DetR (.int .i64 pt) w)) := by
  by_cases hok : OkR p c s ms
  · refine ⟨0, inOf ms, (memOf ms node).2.1, pos (hash key.data.toList : Int) p, Nat.le_trans (inOf_len ms) hl, ?_, ?_, ?_, ?_, ?_, ?_, ?_, ?_⟩
    · exact fun w v ht h => (can_any p c s v ms w ht h1 h2 h hl).mono fun e w' ⟨b, he, hb, hw⟩ => ⟨by rw [he, hb.2 hok]; rfl, hw⟩
    · exact fun w v h => (refCan_any p c s v ms w h hl).mono fun e w' ⟨b, he, hb, hw⟩ => ⟨by rw [he, hb.2 hok]; rfl, hw⟩
    · exact fun w v ht h => in_yes p c s v ms w hok ht h1 h2 h hl
    · exact fun w v h => refIn_yes p c s v ms w hok h hl
    · exact fun w v ht h => epoch_yes p c s v ms node w hok hn1 hn2 ht h1 h2 h hl
    · exact fun w v h => refEpoch_yes p c s v ms node w hok h hl
    · exact fun w v ht h => part_yes p c s v ms key w hok hs ht h1 h2 h hl
    · exact fun w v h => refPart_yes p c s v ms key w hok hs h hl
  · have hf : ∀ b : Bool, (b = true ↔ OkR p c s ms) → b = false := fun b hb => by cases b; rfl; exact absurd (hb.1 rfl) hok
    refine ⟨60, [], 0, 0, Nat.zero_le _, ?_, ?_, ?_, ?_, ?_, ?_, ?_, ?_⟩
    · exact fun w v ht h => (can_any p c s v ms w ht h1 h2 h hl).mono fun e w' ⟨b, he, hb, hw⟩ => ⟨by rw [he, hf b hb]; rfl, hw⟩
    · exact fun w v h => (refCan_any p c s v ms w h hl).mono fun e w' ⟨b, he, hb, hw⟩ => ⟨by rw [he, hf b hb]; rfl, hw⟩
    · exact fun w v ht h => in_no p c s v ms w hok ht h1 h2 h hl
    · exact fun w v h => refIn_no p c s v ms w hok h hl
    · exact fun w v ht h => epoch_no p c s v ms node w hok ht h1 h2 h hl
    · exact fun w v h => refEpoch_no p c s v ms node w hok h hl
    · exact fun w v ht h => part_no p c s v ms key w hok ht h1 h2 h hl
    · exact fun w v h => refPart_no p c s v ms key w hok h hl
end Go.Proofs.YtmgobekdlgogmaaDoor
