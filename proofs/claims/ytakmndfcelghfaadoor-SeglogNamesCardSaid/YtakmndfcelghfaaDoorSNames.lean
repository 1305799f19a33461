/- Names of segments' files: the program's and the document's. -/
import Derived.Test.YtakmndfcelghfaaDoorBase
import Derived.Shelf.Strconv.Itoa3
import Derived.Lib.ConvBytes
import Derived.Laws.IdiomStrings
import Derived.Deep.RegionLaw
import Derived.Lib.LaidTab
import Derived.Lib.QuietBelow
namespace Go.Proofs.YtakmndfcelghfaaDoor
open Go.RowKit Go.Sort Go.BigFrame

def itoaL_ren : Go.Shelf.Ren := ⟨fun | 171 => 6 | 243 => 7 | 246 => 8 | 283 => 9 | 284 => 10 | 285 => 11 | 286 => 12 | 129 => 14 | 317 => 13 | 318 => 15 | 319 => 16 | 320 => 17 | 337 => 18 | 338 => 19 | n => n, fun | 3 => 3 | 9 => 9 | 2 => 2 | 4 => 4 | 171 => 26 | 0 => 0 | 53 => 27 | 37 => 24 | 5 => 5 | 173 => 30 | 212 => 34 | 51 => 35 | 20 => 20 | 213 => 36 | 46 => 37 | 232 => 40 | 233 => 41 | n => n, fun | 17 => 0 | 18 => 1 | 19 => 2 | n => n⟩
theorem itoaL : LaysM.n171 Tryd.prog itoaL_ren := {
  mixed := by kernel_rfl,
  f129 := Tryd.func14.trans (congrArg some (by kernel_rfl)),
  f171 := Tryd.func6.trans (congrArg some (by kernel_rfl)),
  f243 := Tryd.func7.trans (congrArg some (by kernel_rfl)),
  f246 := Tryd.func8.trans (congrArg some (by kernel_rfl)),
  f283 := Tryd.func9.trans (congrArg some (by kernel_rfl)),
  f284 := Tryd.func10.trans (congrArg some (by kernel_rfl)),
  f285 := Tryd.func11.trans (congrArg some (by kernel_rfl)),
  f286 := Tryd.func12.trans (congrArg some (by kernel_rfl)),
  f317 := Tryd.func13.trans (congrArg some (by kernel_rfl)),
  f318 := Tryd.func15.trans (congrArg some (by kernel_rfl)),
  f319 := Tryd.func16.trans (congrArg some (by kernel_rfl)),
  f320 := Tryd.func17.trans (congrArg some (by kernel_rfl)),
  f337 := Tryd.func18.trans (congrArg some (by kernel_rfl)),
  f338 := Tryd.func19.trans (congrArg some (by kernel_rfl)),
  t0 := Tryd.underlying0,
  a0 := Tryd.isAgg0,
  z0 := Tryd.sizeOf0,
  v0 := Tryd.zeroValue0,
  t2 := Tryd.underlying2,
  a2 := Tryd.isAgg2,
  z2 := Tryd.sizeOf2,
  v2 := Tryd.zeroValue2,
  t3 := Tryd.underlying3,
  a3 := Tryd.isAgg3,
  z3 := Tryd.sizeOf3,
  v3 := Tryd.zeroValue3,
  t4 := Tryd.underlying4,
  a4 := Tryd.isAgg4,
  z4 := Tryd.sizeOf4,
  v4 := Tryd.zeroValue4,
  t5 := Tryd.underlying5,
  a5 := Tryd.isAgg5,
  z5 := Tryd.sizeOf5,
  v5 := Tryd.zeroValue5,
  t9 := Tryd.underlying9,
  a9 := Tryd.isAgg9,
  z9 := Tryd.sizeOf9,
  v9 := Tryd.zeroValue9,
  t20 := Tryd.underlying20,
  a20 := Tryd.isAgg20,
  z20 := Tryd.sizeOf20,
  v20 := Tryd.zeroValue20,
  t37 := Tryd.underlying24,
  a37 := Tryd.isAgg24,
  z37 := Tryd.sizeOf24,
  v37 := Tryd.zeroValue24,
  t46 := Tryd.underlying37,
  a46 := Tryd.isAgg37,
  z46 := Tryd.sizeOf37,
  v46 := Tryd.zeroValue37,
  t51 := Tryd.underlying35,
  a51 := Tryd.isAgg35,
  z51 := Tryd.sizeOf35,
  v51 := Tryd.zeroValue35,
  t53 := Tryd.underlying27,
  a53 := Tryd.isAgg27,
  z53 := Tryd.sizeOf27,
  v53 := Tryd.zeroValue27,
  t171 := Tryd.underlying26,
  a171 := Tryd.isAgg26,
  z171 := Tryd.sizeOf26,
  v171 := Tryd.zeroValue26,
  t173 := Tryd.underlying30,
  a173 := Tryd.isAgg30,
  z173 := Tryd.sizeOf30,
  v173 := Tryd.zeroValue30,
  t212 := Tryd.underlying34,
  a212 := Tryd.isAgg34,
  z212 := Tryd.sizeOf34,
  v212 := Tryd.zeroValue34,
  t213 := Tryd.underlying36,
  a213 := Tryd.isAgg36,
  z213 := Tryd.sizeOf36,
  t232 := Tryd.underlying40,
  a232 := Tryd.isAgg40,
  z232 := Tryd.sizeOf40,
  v232 := Tryd.zeroValue40,
  t233 := Tryd.underlying41,
  a233 := Tryd.isAgg41,
  z233 := Tryd.sizeOf41,
  v233 := Tryd.zeroValue41,
  g17 := by kernel_rfl,
  g18 := by kernel_rfl,
  g19 := by kernel_rfl,
  i0 := by kernel_rfl,
  i2 := by kernel_rfl,
  i3 := by kernel_rfl,
  i4 := by kernel_rfl,
  i5 := by kernel_rfl,
  i9 := by kernel_rfl,
  i20 := by kernel_rfl,
  i37 := by kernel_rfl,
  i46 := by kernel_rfl,
  i51 := by kernel_rfl,
  i53 := by kernel_rfl,
  i171 := by kernel_rfl,
  i173 := by kernel_rfl,
  i212 := by kernel_rfl,
  i232 := by kernel_rfl,
  i233 := by kernel_rfl,
  m17 := by kernel_rfl,
  m18 := by kernel_rfl,
  m19 := by kernel_rfl }

def powTab (w : World) : Prop := Lib.TabIs Tryd.prog w "internal/strconv.uint64pow10" .u64 Lib.pow10Tab
theorem pow_global : Tryd.prog.globalNamed "internal/strconv.uint64pow10" = some 0 := by kernel_rfl
theorem pow_lt {w : World} (h : powTab w) : 0 < w.heap.size := by
  unfold powTab Lib.TabIs World.var? at h
  rw [pow_global] at h
  simp only [Option.bind_some] at h
  split at h
  · rename_i e; exact (Array.getElem?_eq_some_iff.1 e).1
  · cases h
theorem pow_below {w w' : World} (h : powTab w) (hb : Below w.heap.size w w') : powTab w' := by
  have hl := pow_lt h
  unfold powTab Lib.TabIs World.var? at h ⊢
  rw [pow_global] at h ⊢
  simp only [Option.bind_some] at h ⊢
  rw [hb.block _ hl]
  exact h

def digs (m : Nat) : List UInt8 := if m = 0 then [] else Lib.decDigits m
theorem digs_step {m : Nat} (h : 0 < m) : digs m = digs (m / 10) ++ [UInt8.ofNat (48 + m % 10)] := by
  unfold digs
  rw [if_neg (by omega), Lib.decDigits]
  by_cases h9 : m < 10
  · rw [dif_pos h9, if_pos (by omega), Nat.mod_eq_of_lt h9]; rfl
  · rw [dif_neg h9, if_neg (by omega)]
def strOf (l : List UInt8) : ByteArray := ⟨l.toArray⟩
theorem strOf_append (a b : List UInt8) : strOf a ++ strOf b = strOf (a ++ b) := by
  unfold strOf
  apply ByteArray.ext
  simp
theorem digits_le (u : Nat) : (Lib.decDigits u).length ≤ u + 1 := by
  induction u using Nat.strongRecOn with
  | _ u ih =>
    rw [Lib.decDigits]
    by_cases h : u < 10
    · rw [dif_pos h]; simp
    · rw [dif_neg h, List.length_append]
      have := ih (u / 10) (by omega)
      simp
      omega
/-- A segment's name. -/
def segS (n : Int) : ByteArray := if n < 1 ∨ 999999999 < n then .empty else strOf ([108, 111, 103, 46] ++ digs n.toNat)
theorem ret_str {a b : ByteArray} (h : a = b) : Ending.returned (.string a) = .returned (.string b) := by rw [h]

set_option maxRecDepth 100000 in
set_option maxHeartbeats 800000 in
theorem segName_any (n : Int) (h0 : -9223372036854775808 ≤ n) (h1 : n ≤ 9223372036854775807) (w : World) (ht : powTab w) :
    Calls Tryd.prog 4 #[.int .i64 n] w fun e w' => e = .returned (.string (segS n)) ∧ Below w.heap.size w w' := by
  by_cases hr : n < 1
  · have e : Hid (segS n = .empty) := Lib.hid (by unfold segS; rw [if_pos (.inl hr)])
    rw [e.out]
    go_enter Tryd.func4, Tryd.ntmps4
    go_wp2
    go_ret
    exact ⟨rfl, Below.refl _ _⟩
  · by_cases hr2 : 999999999 < n
    · have e : Hid (segS n = .empty) := Lib.hid (by unfold segS; rw [if_pos (.inr hr2)])
      rw [e.out]
      go_enter Tryd.func4, Tryd.ntmps4
      go_wp2
      go_ret
      exact ⟨rfl, Below.refl _ _⟩
    · have e : Hid (segS n = strOf ([108, 111, 103, 46] ++ digs n.toNat)) := Lib.hid (by unfold segS; rw [if_neg (by omega)])
      have HI := Lib.hid (Any.strconv_Itoa itoaL n h0 h1 w ht)
      have HT : Hid ((⟨#[108, 111, 103, 46]⟩ : ByteArray) ++ ⟨(Lib.itoa n).toArray⟩ = segS n) := Lib.hid (by
        rw [e.out, ← strOf_append]
        unfold Lib.itoa digs
        rw [if_neg (by omega), if_neg (by omega)]
        rfl)
      have hL : ¬ (9223372036854775807 < 4 + (Lib.itoa n).length) := by
        unfold Lib.itoa
        rw [if_neg (by omega)]
        have := digits_le n.toNat
        omega
      clear ht
      go_enter Tryd.func4, Tryd.ntmps4
      go_wp2_with fail
      refine HI.out.mono ?_
      rintro e w1 ⟨rfl, k, os, rfl⟩
      go_wp2
      go_ret
      exact ⟨ret_str HT.out, below_regrown _ _ _⟩

set_option maxRecDepth 100000 in
set_option maxHeartbeats 1600000 in
theorem refSeg_any (n : Int) (w : World) :
    Calls Tryd.prog 5 #[.int .i64 n] w fun e w' => e = .returned (.string (segS n)) ∧ Below w.heap.size w w' := by
  by_cases hr : n < 1
  · have e : Hid (segS n = .empty) := Lib.hid (by unfold segS; rw [if_pos (.inl hr)])
    rw [e.out]
    go_enter Tryd.func5, Tryd.ntmps5
    go_wp2
    go_ret
    exact ⟨rfl, Below.refl _ _⟩
  · by_cases hr2 : 999999999 < n
    · have e : Hid (segS n = .empty) := Lib.hid (by unfold segS; rw [if_pos (.inr hr2)])
      rw [e.out]
      go_enter Tryd.func5, Tryd.ntmps5
      go_wp2
      go_ret
      exact ⟨rfl, Below.refl _ _⟩
    · have e : Hid (segS n = strOf ([108, 111, 103, 46] ++ digs n.toNat)) := Lib.hid (by unfold segS; rw [if_neg (by omega)])
      obtain ⟨N, hN⟩ : ∃ N : Nat, n = (N : Int) := ⟨n.toNat, by omega⟩
      subst hN
      rw [Int.toNat_natCast] at e
      have hN9 : N ≤ 999999999 := by omega
      go_enter Tryd.func5, Tryd.ntmps5
      go_wp2
      go_loopw [0, 3] (fun i s wr => ∃ (m : Nat) (l : List UInt8), (m ≤ N ∧ i = .int .i64 m ∧ s = .string (strOf l)) ∧ Hid (digs m ++ l = digs N) ∧ Below w.heap.size w wr) (fun i _ _ => (intOf i).toNat)
      case atStart => exact ⟨N, [], ⟨Nat.le_refl _, rfl, rfl⟩, Lib.hid (by simp), Below.refl _ _⟩
      case round =>
        obtain ⟨m, l, ⟨hm, rfl, rfl⟩, HD, hb⟩ := hrel
        by_cases hm0 : 0 < m
        · obtain ⟨c, hc⟩ : ∃ c, Hid (c = UInt8.ofNat (48 + m % 10)) := ⟨_, Lib.hid rfl⟩
          have HS : Hid (digs (m / 10) ++ (c :: l) = digs N) := Lib.hid (by
            have := HD.out
            rw [digs_step hm0, ← hc.out, List.append_assoc] at this
            exact this)
          have hcv : (convert 24 9 (.slice (some ⟨wr.heap.size, 0, none⟩) 1 1)).run Tryd.prog (wr.alloc (.cells #[.int .u8 (48 + (m : Int) % 10)] 5)) = .ok (.string (strOf [c])) (wr.alloc (.cells #[.int .u8 (48 + (m : Int) % 10)] 5)) := by
            refine run_convert_bytes_back (P := Tryd.prog) _ 24 9 5 ⟨wr.heap.size, 0, none⟩ 1 [c] Tryd.underlying24 Tryd.underlying5 Tryd.underlying9 fun j hj => ?_
            obtain rfl : j = 0 := by simp at hj; exact hj
            have e : (⟨wr.heap.size, 0, none⟩ : Addr).add 0 = ⟨wr.heap.size, 0, none⟩ := by unfold Addr.add; simp
            have e2 : (48 + (m : Int) % 10) = ((c).toNat : Int) := by rw [hc.out, UInt8.toNat_ofNat']; omega
            rw [e, e2]
            exact World.cell?_alloc_at _ _ _ _ rfl
          have hll : l.length ≤ 1073741824 := by
            have h1 := congrArg List.length HD.out
            have h2 : (digs N).length ≤ N + 1 := by unfold digs; split <;> simp [digits_le]
            rw [List.length_append] at h1
            omega
          have hsz : ¬ (9223372036854775807 < (strOf [c]).size + (strOf l).size) := by
            show ¬ (9223372036854775807 < [c].toArray.size + l.toArray.size)
            simp; omega
          have HA := Lib.hid (strOf_append [c] l)
          have HB2 : Hid (Below w.heap.size w (wr.alloc (.cells #[.int .u8 (48 + (m : Int) % 10)] 5))) := Lib.hid (hb.alloc hb.size _)
          go_wp2
          go_roundw
          case rel => exact ⟨m / 10, _, ⟨by omega, by go_num, by rw [HA.out]; rfl⟩, HS, HB2.out⟩
          case measure => simp [intOf]; omega
        · obtain rfl : m = 0 := by omega
          have HF : Hid ((⟨#[108, 111, 103, 46]⟩ : ByteArray) ++ strOf l = segS (N : Int)) := Lib.hid (by
            rw [e.out, ← HD.out, ← strOf_append]
            rfl)
          have hll : l.length ≤ 1073741824 := by
            have h1 := congrArg List.length HD.out
            have h2 : (digs N).length ≤ N + 1 := by unfold digs; split <;> simp [digits_le]
            rw [List.length_append] at h1
            omega
          have hsz : ¬ (9223372036854775807 < 4 + (strOf l).size) := by
            show ¬ (9223372036854775807 < 4 + l.toArray.size)
            simp; omega
          go_wp2
          go_ret
          exact ⟨ret_str HF.out, hb⟩
end Go.Proofs.YtakmndfcelghfaaDoor
