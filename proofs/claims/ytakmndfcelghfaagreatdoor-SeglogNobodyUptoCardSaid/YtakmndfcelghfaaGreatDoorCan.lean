/- Names: which may be. -/
import Derived.Test.YtakmndfcelghfaaGreatDoorBase
import Derived.Lib.ConvBytes
import Derived.Laws.IdiomStrings
namespace Go.Proofs.YtakmndfcelghfaaGreatDoor
open Go.RowKit
open Go.Lib (byteCells byteCells_length)

theorem ret_int {k : IntKind} {a b : Int} (h : a = b) : Ending.returned (.int k a) = .returned (.int k b) := by rw [h]
theorem val_int {k : IntKind} {a b : Int} (h : a = b) : Value.int k a = .int k b := by rw [h]
theorem ret_bool {a b : Bool} (h : a = b) : Ending.returned (.bool a) = .returned (.bool b) := by rw [h]
/-- Which bytes a name may have. -/
def okB (c : Int) : Bool := (decide (97 ≤ c) && decide (c ≤ 122)) || (decide (65 ≤ c) && decide (c ≤ 90)) || (decide (48 ≤ c) && decide (c ≤ 57)) || c == 46 || c == 45 || c == 95
def okAll (l : List UInt8) : Bool := l.all fun b => okB b.toNat
def canS (l : List UInt8) : Bool := decide (1 ≤ l.length) && decide (l.length ≤ 32) && okAll l
theorem okAll_take {l : List UInt8} {k : Nat} (h : k < l.length) (h0 : okAll (l.take k) = true) (h1 : okB l[k].toNat = true) : okAll (l.take (k + 1)) = true := by
  unfold okAll at *
  rw [List.take_succ_eq_append_getElem h, List.all_append, h0]
  simpa using h1
theorem okAll_not {l : List UInt8} {k : Nat} (h : k < l.length) (h1 : okB l[k].toNat = false) : okAll l = false := by
  unfold okAll
  rw [List.all_eq_false]
  exact ⟨l[k], List.getElem_mem h, by simp [h1]⟩
theorem slen (s : ByteArray) : s.data.toList.length = s.size := by rw [Array.length_toList]; rfl

set_option maxHeartbeats 800000 in
theorem canByte_any (c : Int) (h0 : 0 ≤ c) (h1 : c ≤ 255) (w : World) :
    Calls Tryz.prog 133 #[.int .u8 c] w fun e w' => e = .returned (.bool (okB c)) ∧ w = w' := by
  go_enter Tryz.func133, Tryz.ntmps133
  go_wp2
  all_goals go_ret
  all_goals refine ⟨ret_bool ?_, rfl⟩
  all_goals simp [okB]
  all_goals first | omega | (rw [Bool.eq_iff_iff]; simp; omega)

/-- '[]byte(s)'. -/
theorem conv_any (s : ByteArray) (w : World) : ∃ w1 cap, (convert 9 22 (.string s)).run Tryz.prog w = .ok (.slice (some ⟨w.heap.size, 0, none⟩) s.size cap) w1 ∧ Below w.heap.size w w1 ∧ s.size ≤ cap ∧
    RdA w1 w.heap.size w1.heap.size (some ⟨w.heap.size, 0, none⟩) s.data.toList := by
  refine ⟨Lib.bytesWorld w 5 s, _, Lib.run_convert_string_bytes w 9 22 5 s Tryz.underlying9 Tryz.underlying22 Tryz.underlying5, ?_, ?_, ?_⟩
  · exact ⟨rfl, rfl, rfl, by rw [Lib.bytesWorld_size]; omega, fun k hk => Lib.bytesWorld_at_old w _ s k hk⟩
  · exact grownCap_ge w s.size 0 _
  · intro _
    refine ⟨_, rfl, Nat.le_refl _, by rw [Lib.bytesWorld_size]; simp, fun j u hu => ?_⟩
    have hj : j < s.data.toList.length := by
      have := (List.getElem?_eq_some_iff.1 hu).1
      rwa [byteCells_length] at this
    rw [byteCells_at _ j hj] at hu
    have e : (⟨w.heap.size, 0, none⟩ : Addr).add j = ⟨w.heap.size, j, none⟩ := by unfold Addr.add; split <;> simp_all
    rw [e, Lib.bytesWorld_cell w 5 s j (by rw [← slen]; exact hj), ← hu, List.getD_eq_getElem?_getD, List.getElem?_eq_getElem hj]
    rfl

theorem okB_eq {l : List UInt8} {k : Nat} (h : k < l.length) (c : Int) (hc : c = l[k].toNat) : okB c = okB l[k].toNat := by rw [hc]

set_option maxRecDepth 100000 in
set_option maxHeartbeats 1600000 in
theorem can_any (s : ByteArray) (hs : s.size ≤ 9223372036854775807) (w : World) :
    Calls Tryz.prog 130 #[.string s] w fun e w' => e = .returned (.bool (canS s.data.toList)) ∧ Below w.heap.size w w' := by
  have hl := slen s
  by_cases h1 : s.size < 1
  · have hz : s.size = 0 := by omega
    have hr : canS s.data.toList = false := by unfold canS; rw [hl, hz]; rfl
    have HR := Lib.hid hr
    have d1 : decide ((s.size : Int) < 1) = true := by simp; omega
    clear hr hl hz
    go_enter Tryz.func130, Tryz.ntmps130
    go_wp2
    go_ret
    exact ⟨ret_bool HR.out.symm, Below.refl _ _⟩
  · by_cases h2 : 32 < s.size
    · have hr : canS s.data.toList = false := by
        unfold canS; rw [hl]
        have : decide (s.size ≤ 32) = false := by simp; omega
        rw [this]; simp
      have HR := Lib.hid hr
      have d1 : decide ((s.size : Int) < 1) = false := by simp; omega
      have d2 : decide (32 < (s.size : Int)) = true := by simp; omega
      clear hr hl
      go_enter Tryz.func130, Tryz.ntmps130
      go_wp2
      go_ret
      exact ⟨ret_bool HR.out.symm, Below.refl _ _⟩
    · have hr : canS s.data.toList = okAll s.data.toList := by
        unfold canS; rw [hl]
        have e1 : decide (s.size ≤ 32) = true := by simp; omega
        have e2 : decide (1 ≤ s.size) = true := by simp; omega
        rw [e1, e2]; simp
      have HR := Lib.hid hr
      have d1 : decide ((s.size : Int) < 1) = false := by simp; omega
      have d2 : decide (32 < (s.size : Int)) = false := by simp; omega
      obtain ⟨w1, cap, hconv, hb, hcap, hrd⟩ := conv_any s w
      obtain ⟨bs, hbs⟩ : ∃ bs, Hid (bs = s.data.toList) := ⟨_, Lib.hid rfl⟩
      rw [← hbs.out] at hl hrd
      have HL := Lib.hid hl
      have hll : bs.length ≤ 32 := by omega
      have hl2 : bs.length ≤ s.size := by omega
      have hl3 : s.size ≤ bs.length := by omega
      clear hr hl
      go_enter Tryz.func130, Tryz.ntmps130
      go_wp2
      go_loop [16] (fun i => ∃ k : Nat, k ≤ s.size ∧ i = .int .i64 k ∧ okAll (bs.take k) = true) (fun i => s.size - (intOf i).toNat)
      case atStart => exact ⟨0, Nat.zero_le _, rfl, rfl⟩
      case round =>
        obtain ⟨k, hk, rfl, hok⟩ := hrel
        have HOK := Lib.hid hok
        clear hok
        by_cases hlt : k < s.size
        · have hlt' : k < bs.length := by omega
          obtain ⟨a, ha0, ha⟩ := hrd.at_ hlt'
          obtain rfl : a = ⟨w.heap.size, 0, none⟩ := (Option.some.inj ha0).symm
          have e : (⟨w.heap.size, 0, none⟩ : Addr).add k = ⟨w.heap.size, k, none⟩ := by unfold Addr.add; split <;> simp_all
          rw [e] at ha
          have hby := bs[k].toNat_lt
          have HC := Lib.hid (canByte_any (bs[k].toNat : Int) (by omega) (by omega) w1)
          clear e ha0
          by_cases hb1 : okB bs[k].toNat = true
          · rw [hb1] at HC
            have HB := Lib.hid hb1
            clear hb1
            go_wp2_with fail
            refine HC.out.mono ?_
            rintro e w' ⟨rfl, rfl⟩
            go_wp2
            go_round
            case rel => exact ⟨k + 1, by omega, by go_num, okAll_take hlt' HOK.out HB.out⟩
            case measure => simp [intOf]; omega
          · have hb2 : okB bs[k].toNat = false := by simpa using hb1
            rw [hb2] at HC
            have HB := Lib.hid hb2
            clear hb1 hb2
            go_wp2_with fail
            refine HC.out.mono ?_
            rintro e w' ⟨rfl, rfl⟩
            go_wp2
            go_ret
            exact ⟨ret_bool (by rw [HR.out, ← hbs.out]; exact (okAll_not hlt' HB.out).symm), hb⟩
        · obtain rfl : k = s.size := by omega
          go_wp2
          go_ret
          exact ⟨ret_bool (by rw [HR.out, ← hbs.out]; have := HOK.out; rw [List.take_of_length_le (by omega)] at this; exact this.symm), hb⟩

end Go.Proofs.YtakmndfcelghfaaGreatDoor
