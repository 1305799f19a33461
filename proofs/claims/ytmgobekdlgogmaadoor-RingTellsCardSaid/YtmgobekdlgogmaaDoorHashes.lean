/- The hash: the program's and the document's. -/
import Derived.Test.YtmgobekdlgogmaaDoorKeys
import Derived.Laws.Rows
namespace Go.Proofs.YtmgobekdlgogmaaDoor
open Go.RowKit
open Go.Lib (byteCells byteCells_length)

theorem hstep_int (d : Nat) (b : UInt8) (hd : d < 18446744073709551616) : IntKind.u64.wrap (bits .xor .u64 (d : Int) (b.toNat : Int) * 1099511628211) = (hstep d b : Int) := by
  have hb := b.toNat_lt
  rw [u64_xor_nat d b.toNat hd (by omega), IntKind.wrap_u64]
  unfold hstep
  generalize d ^^^ b.toNat = x
  omega
theorem hturn_int (d f : Nat) (F : Int) (hF : F = (f : Int)) (hd : d < 18446744073709551616) : IntKind.u64.wrap (bits .xor .u64 (d : Int) ((d : Int) / 8589934592) * F) = (hturn d f : Int) := by
  subst hF
  have e : ((d : Int) / 8589934592) = ((d / 8589934592 : Nat) : Int) := by omega
  rw [e, u64_xor_nat d _ hd (by omega), IntKind.wrap_u64]
  unfold hturn
  generalize d ^^^ d / 8589934592 = x
  rw [← Int.natCast_mul]
  generalize x * f = y
  omega
theorem hturn_last (d : Nat) (hd : d < 18446744073709551616) : bits .xor .u64 (d : Int) ((d : Int) / 8589934592) = (hturn d 1 : Int) := by
  have e : ((d : Int) / 8589934592) = ((d / 8589934592 : Nat) : Int) := by omega
  have hx : d ^^^ d / 8589934592 < 2 ^ 64 := Nat.xor_lt_two_pow (by omega) (by omega)
  rw [e, u64_xor_nat d _ hd (by omega)]
  unfold hturn
  generalize d ^^^ d / 8589934592 = x at hx
  omega

theorem hturn_last2 (d : Nat) (hd : d < 18446744073709551616) : IntKind.u64.wrap (bits .xor .u64 (d : Int) ((d : Int) / 8589934592)) = (hturn d 1 : Int) := by
  have := hturn_lt d 1
  rw [hturn_last d hd, IntKind.wrap_u64]
  omega

theorem ret_u64 {a b : Int} (h : a = b) : Ending.returned (.int .u64 a) = .returned (.int .u64 b) := by rw [h]

set_option maxRecDepth 100000 in
set_option maxHeartbeats 1600000 in
theorem hash_any (v : Value) (bs : List UInt8) (lo hi : Nat) (w : World) (h : Rd w lo hi v bs) (hl : bs.length ≤ 9223372036854775807) (ht : Tabs w) :
    Calls Tryd.prog 57 #[v] w fun e w' => e = .returned (.int .u64 (hash bs : Int)) ∧ w = w' := by
  obtain ⟨A, c, rfl, hc, hx⟩ := h
  obtain ⟨tt, fr, htab⟩ := ht.turns
  have HTAB := Lib.hid htab
  clear htab
  have i0 : ∀ (w : World) (x0 x1 x2 : Value), (Instr.index 80 (.agg #[x0, x1, x2]) (.int .i64 0)).run Tryd.prog w = .ok x0 w := fun _ _ _ _ => by kernel_rfl
  have i1 : ∀ (w : World) (x0 x1 x2 : Value), (Instr.index 80 (.agg #[x0, x1, x2]) (.int .i64 1)).run Tryd.prog w = .ok x1 w := fun _ _ _ _ => by kernel_rfl
  have i2 : ∀ (w : World) (x0 x1 x2 : Value), (Instr.index 80 (.agg #[x0, x1, x2]) (.int .i64 2)).run Tryd.prog w = .ok x2 w := fun _ _ _ _ => by kernel_rfl
  go_enter Tryd.func57, Tryd.ntmps57
  go_wp2
  go_loop [10, 3] (fun i x => ∃ k : Nat, k ≤ bs.length ∧ i = .int .i64 k ∧ x = .int .u64 (hraw (bs.take k) : Int)) (fun i _ => bs.length - (intOf i).toNat)
  case atStart => exact ⟨0, Nat.zero_le _, rfl, rfl⟩
  case round =>
    obtain ⟨k, hk, rfl, rfl⟩ := hrel
    by_cases hlt : k < bs.length
    · obtain ⟨a, rfl, ha⟩ := hx.at_ hlt
      have hs := Lib.hid (hraw_take bs k hlt)
      obtain ⟨d, hd⟩ : ∃ d, Hid (d = hraw (bs.take k)) := ⟨_, Lib.hid rfl⟩
      have hd2 : Hid (d < 18446744073709551616) := Lib.hid (by rw [hd.out]; exact hraw_lt _)
      have hb := bs[k].toNat_lt
      rw [← hd.out]
      go_wp2
      go_round
      case rel => exact ⟨k + 1, by omega, by go_num, val_int (by rw [hs.out, ← hd.out]; exact hstep_int d bs[k] hd2.out)⟩
      case measure => simp [intOf]; omega
    · obtain rfl : k = bs.length := by omega
      obtain ⟨d, hd⟩ : ∃ d, Hid (d = hraw (bs.take bs.length)) := ⟨_, Lib.hid rfl⟩
      have hd2 : Hid (d < 18446744073709551616) := Lib.hid (by rw [hd.out]; exact hraw_lt _)
      rw [← hd.out]
      go_wp2_with (with_reducible refine wpList_load_row rfl 80 (.global 0) rfl 0 rfl tt _ fr _ HTAB.out Tryd.underlying80 rfl rfl ?_)
      obtain ⟨d1, hd1⟩ : ∃ d1, Hid (d1 = hturn d 18397679294719823053) := ⟨_, Lib.hid rfl⟩
      have hl1 : Hid (d1 < 18446744073709551616) := Lib.hid (by rw [hd1.out]; exact hturn_lt _ _)
      obtain ⟨d2, hd2'⟩ : ∃ d2, Hid (d2 = hturn d1 14181476777654086739) := ⟨_, Lib.hid rfl⟩
      have hl2 : Hid (d2 < 18446744073709551616) := Lib.hid (by rw [hd2'.out]; exact hturn_lt _ _)
      obtain ⟨d3, hd3⟩ : ∃ d3, Hid (d3 = hturn d2 1) := ⟨_, Lib.hid rfl⟩
      go_loop [21, 3] (fun i x => (i = .int .i64 0 ∧ x = .int .u64 (d : Int)) ∨ (i = .int .i64 1 ∧ x = .int .u64 (d1 : Int)) ∨ (i = .int .i64 2 ∧ x = .int .u64 (d2 : Int)) ∨ (i = .int .i64 3 ∧ x = .int .u64 (d3 : Int))) (fun i _ => 3 - (intOf i).toNat)
      case atStart => exact .inl ⟨rfl, rfl⟩
      case round =>
        rcases hrel with ⟨rfl, rfl⟩ | ⟨rfl, rfl⟩ | ⟨rfl, rfl⟩ | ⟨rfl, rfl⟩
        · go_wp2
          go_round
          case rel => exact .inr (.inl ⟨rfl, val_int (by rw [hd1.out]; exact hturn_int d 18397679294719823053 _ (by decide) hd2.out)⟩)
          case measure => simp [intOf]
        · go_wp2
          go_round
          case rel => exact .inr (.inr (.inl ⟨rfl, val_int (by rw [hd2'.out]; exact hturn_int d1 14181476777654086739 _ (by decide) hl1.out)⟩))
          case measure => simp [intOf]
        · go_wp2
          go_round
          case rel => exact .inr (.inr (.inr ⟨rfl, val_int (by rw [hd3.out]; exact hturn_last2 d2 hl2.out)⟩))
          case measure => simp [intOf]
        · go_wp2
          go_ret
          exact ⟨ret_u64 (by rw [hd3.out, hd2'.out, hd1.out, hd.out, List.take_of_length_le (Nat.le_refl _)]; rfl), rfl⟩

set_option maxRecDepth 100000 in
set_option maxHeartbeats 1600000 in
theorem refHash_any (v : Value) (bs : List UInt8) (lo hi : Nat) (w : World) (h : Rd w lo hi v bs) (hl : bs.length ≤ 9223372036854775807) :
    Calls Tryd.prog 59 #[v] w fun e w' => e = .returned (.int .u64 (hash bs : Int)) ∧ w = w' := by
  obtain ⟨A, c, rfl, hc, hx⟩ := h
  go_enter Tryd.func59, Tryd.ntmps59
  go_wp2
  go_loop [4, 3] (fun i x => ∃ k : Nat, k ≤ bs.length ∧ i = .int .i64 k ∧ x = .int .u64 (hraw (bs.take k) : Int)) (fun i _ => bs.length - (intOf i).toNat)
  case atStart => exact ⟨0, Nat.zero_le _, rfl, rfl⟩
  case round =>
    obtain ⟨k, hk, rfl, rfl⟩ := hrel
    by_cases hlt : k < bs.length
    · obtain ⟨a, rfl, ha⟩ := hx.at_ hlt
      have hs := Lib.hid (hraw_take bs k hlt)
      obtain ⟨d, hd⟩ : ∃ d, Hid (d = hraw (bs.take k)) := ⟨_, Lib.hid rfl⟩
      have hd2 : Hid (d < 18446744073709551616) := Lib.hid (by rw [hd.out]; exact hraw_lt _)
      have hb := bs[k].toNat_lt
      rw [← hd.out]
      go_wp2
      go_round
      case rel => exact ⟨k + 1, by omega, by go_num, val_int (by rw [hs.out, ← hd.out]; exact hstep_int d bs[k] hd2.out)⟩
      case measure => simp [intOf]; omega
    · obtain rfl : k = bs.length := by omega
      obtain ⟨d, hd⟩ : ∃ d, Hid (d = hraw (bs.take bs.length)) := ⟨_, Lib.hid rfl⟩
      have hd2 : Hid (d < 18446744073709551616) := Lib.hid (by rw [hd.out]; exact hraw_lt _)
      rw [← hd.out]
      obtain ⟨d1, hd1⟩ : ∃ d1, Hid (d1 = hturn d 18397679294719823053) := ⟨_, Lib.hid rfl⟩
      have hl1 : Hid (d1 < 18446744073709551616) := Lib.hid (by rw [hd1.out]; exact hturn_lt _ _)
      obtain ⟨d2, hd2'⟩ : ∃ d2, Hid (d2 = hturn d1 14181476777654086739) := ⟨_, Lib.hid rfl⟩
      have hl2 : Hid (d2 < 18446744073709551616) := Lib.hid (by rw [hd2'.out]; exact hturn_lt _ _)
      go_wp2
      go_ret
      refine ⟨ret_u64 ?_, rfl⟩
      rw [hturn_int d 18397679294719823053 _ (by decide) hd2.out, ← hd1.out, hturn_int d1 14181476777654086739 _ (by decide) hl1.out, ← hd2'.out, hturn_last d2 hl2.out, hd2'.out, hd1.out, hd.out, List.take_of_length_le (Nat.le_refl _)]
      rfl
end Go.Proofs.YtmgobekdlgogmaaDoor
