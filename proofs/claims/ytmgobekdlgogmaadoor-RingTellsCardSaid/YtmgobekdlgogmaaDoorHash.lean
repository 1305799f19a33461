/- The hash of bytes, as plain numbers: no program. -/
import Derived.Laws.BitsAllLaws
namespace Go.Proofs.YtmgobekdlgogmaaDoor

def hstep (h : Nat) (b : UInt8) : Nat := (h ^^^ b.toNat) * 1099511628211 % 18446744073709551616
def hraw (bs : List UInt8) : Nat := bs.foldl hstep 14695981039346656037
def hturn (h f : Nat) : Nat := (h ^^^ h / 8589934592) * f % 18446744073709551616
def hash (bs : List UInt8) : Nat := hturn (hturn (hturn (hraw bs) 18397679294719823053) 14181476777654086739) 1

theorem hstep_lt (h : Nat) (b : UInt8) : hstep h b < 18446744073709551616 := Nat.mod_lt _ (by decide)
theorem hturn_lt (h f : Nat) : hturn h f < 18446744073709551616 := Nat.mod_lt _ (by decide)
theorem hfold_lt (bs : List UInt8) : ∀ {h : Nat}, h < 18446744073709551616 → bs.foldl hstep h < 18446744073709551616 := by
  induction bs with
  | nil => intro h hh; exact hh
  | cons b bs ih => intro h _; exact ih (hstep_lt h b)
theorem hraw_lt (bs : List UInt8) : hraw bs < 18446744073709551616 := hfold_lt bs (by decide)
theorem hash_lt (bs : List UInt8) : hash bs < 18446744073709551616 := hturn_lt _ _
theorem hraw_take (bs : List UInt8) (k : Nat) (h : k < bs.length) : hraw (bs.take (k + 1)) = hstep (hraw (bs.take k)) bs[k] := by
  unfold hraw
  rw [List.take_succ_eq_append_getElem h, List.foldl_append, List.foldl_cons, List.foldl_nil]

/-- The way back, of a hash of one byte. -/
def hback (h : Nat) : Nat :=
  let a := (h ^^^ h / 8589934592) * 11291846944257947611 % 18446744073709551616
  let b := (a ^^^ a / 8589934592) * 5725274745694666757 % 18446744073709551616
  let c := (b ^^^ b / 8589934592) * 14886173955864302971 % 18446744073709551616
  c ^^^ 14695981039346656037
theorem hback_all : (List.range 256).all (fun n => hback (hash [UInt8.ofNat n]) == n) = true := by decide +kernel
theorem hback_one (a : UInt8) : hback (hash [a]) = a.toNat := by
  have h := List.all_eq_true.1 hback_all a.toNat (List.mem_range.2 a.toNat_lt)
  have e : UInt8.ofNat a.toNat = a := by simp
  rw [e] at h
  exact beq_iff_eq.1 h
theorem hash_one (a b : UInt8) : hash [a] = hash [b] ↔ a = b := by
  constructor
  · intro h
    have := congrArg hback h
    rw [hback_one, hback_one] at this
    exact UInt8.toNat_inj.1 this
  · intro h; rw [h]
theorem hash_ab : hash [97] ≠ hash [98] := by
  intro h
  have := (hash_one 97 98).1 h
  exact absurd this (by decide)

/-- A number's eight bytes, the highest first. -/
def eight (n : Nat) : List UInt8 := [UInt8.ofNat (n / 72057594037927936), UInt8.ofNat (n / 281474976710656), UInt8.ofNat (n / 1099511627776), UInt8.ofNat (n / 4294967296), UInt8.ofNat (n / 16777216), UInt8.ofNat (n / 65536), UInt8.ofNat (n / 256), UInt8.ofNat n]
def mix (a b : Nat) : Nat := hash (eight a ++ eight b)
end Go.Proofs.YtmgobekdlgogmaaDoor
