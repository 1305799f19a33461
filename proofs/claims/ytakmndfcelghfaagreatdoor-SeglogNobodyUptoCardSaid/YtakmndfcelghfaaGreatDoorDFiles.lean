/- A made disk: Files. What the library's contracts say of its sort of a map's keys, laid at this program. -/
import Derived.Shelf.SlIter.Nil
import Derived.Shelf.SortM.Plain
import Derived.Shelf.SortM.SortNone
import Derived.Test.YtakmndfcelghfaaGreatDoorDCopyM
namespace Go.Proofs.YtakmndfcelghfaaGreatDoor
open Go.RowKit Go.Maps Go.Sort Go.Shelf

def keysL_ren : Go.Shelf.Ren := ⟨fun | 7 => 124 | 10 => 129 | n => n, fun | 23 => 40 | 26 => 9 | 3 => 164 | 28 => 171 | 0 => 0 | 27 => 170 | 33 => 143 | 4 => 4 | n => n, fun | n => n⟩
theorem keysL : SlLaysZ.n7 Tryz.prog keysL_ren := {
  mixed := by kernel_rfl,
  f7 := ⟨Tryz.f124.name, by decide, Tryz.func124.trans (congrArg some (by kernel_rfl))⟩,
  f10 := ⟨Tryz.f129.name, by decide, Tryz.func129.trans (congrArg some (by kernel_rfl))⟩,
  t0 := Tryz.underlying0,
  a0 := Tryz.isAgg0,
  z0 := Tryz.sizeOf0,
  v0 := Tryz.zeroValue0,
  t4 := Tryz.underlying4,
  a4 := Tryz.isAgg4,
  z4 := Tryz.sizeOf4,
  v4 := Tryz.zeroValue4,
  t23 := Tryz.underlying40,
  a23 := Tryz.isAgg40,
  z23 := Tryz.sizeOf40,
  v23 := Tryz.zeroValue40,
  t26 := Tryz.underlying9,
  a26 := Tryz.isAgg9,
  z26 := Tryz.sizeOf9,
  v26 := Tryz.zeroValue9,
  t27 := Tryz.underlying170,
  a27 := Tryz.isAgg170,
  z27 := Tryz.sizeOf170,
  v27 := Tryz.zeroValue170,
  t28 := Tryz.underlying171,
  a28 := Tryz.isAgg171,
  z28 := Tryz.sizeOf171,
  v28 := Tryz.zeroValue171,
  t33 := Tryz.underlying143,
  a33 := Tryz.isAgg143,
  z33 := Tryz.sizeOf143,
  v33 := Tryz.zeroValue143 }
def sortedL_ren : Go.Shelf.Ren := ⟨fun | 6 => 123 | 8 => 127 | 9 => 128 | 11 => 131 | 13 => 35 | 12 => 132 | 23 => 53 | 24 => 54 | 14 => 134 | 15 => 135 | 16 => 136 | 17 => 137 | 18 => 138 | 19 => 139 | 20 => 140 | 21 => 141 | 22 => 142 | 25 => 143 | 26 => 69 | 27 => 70 | 28 => 144 | 29 => 145 | 30 => 146 | 31 => 147 | n => n, fun | 26 => 9 | 28 => 171 | 24 => 67 | 0 => 0 | 3 => 3 | 37 => 80 | 48 => 99 | 50 => 101 | 4 => 4 | 40 => 91 | 39 => 90 | 45 => 96 | 5 => 5 | 9 => 9 | 51 => 116 | 55 => 120 | 57 => 136 | 58 => 137 | 33 => 143 | n => n, fun | n => n⟩
theorem sortedL : SlLaysZ.n6 Tryz.prog sortedL_ren := {
  mixed := by kernel_rfl,
  f6 := ⟨Tryz.f123.name, by decide, Tryz.func123.trans (congrArg some (by kernel_rfl))⟩,
  f8 := ⟨Tryz.f127.name, by decide, Tryz.func127.trans (congrArg some (by kernel_rfl))⟩,
  f11 := ⟨Tryz.f131.name, by decide, Tryz.func131.trans (congrArg some (by kernel_rfl))⟩,
  t0 := Tryz.underlying0,
  a0 := Tryz.isAgg0,
  z0 := Tryz.sizeOf0,
  v0 := Tryz.zeroValue0,
  t24 := Tryz.underlying67,
  a24 := Tryz.isAgg67,
  z24 := Tryz.sizeOf67,
  v24 := Tryz.zeroValue67,
  t26 := Tryz.underlying9,
  a26 := Tryz.isAgg9,
  z26 := Tryz.sizeOf9,
  v26 := Tryz.zeroValue9,
  t28 := Tryz.underlying171,
  a28 := Tryz.isAgg171,
  z28 := Tryz.sizeOf171,
  v28 := Tryz.zeroValue171,
  i26 := by kernel_rfl }
def sortL_ren : Go.Shelf.Ren := ⟨fun | 6 => 128 | 8 => 35 | 9 => 132 | 19 => 53 | 20 => 54 | 21 => 134 | 22 => 135 | 23 => 136 | 24 => 137 | 25 => 138 | 26 => 139 | 27 => 140 | 28 => 141 | 29 => 142 | 36 => 143 | 31 => 69 | 32 => 70 | 37 => 144 | 38 => 145 | 39 => 146 | 41 => 147 | n => n, fun | 27 => 67 | 29 => 9 | 3 => 3 | 32 => 80 | 26 => 67 | 0 => 0 | 44 => 99 | 46 => 101 | 4 => 4 | 36 => 91 | 35 => 90 | 41 => 96 | 5 => 5 | 9 => 9 | 53 => 116 | 57 => 120 | 63 => 136 | 64 => 137 | n => n, fun | n => n⟩
theorem sortL : SlLaysM.n6 Tryz.prog sortL_ren := {
  mixed := by kernel_rfl,
  f6 := ⟨Tryz.f128.name, by decide, Tryz.func128.trans (congrArg some (by kernel_rfl))⟩,
  f8 := Tryz.func35.trans (congrArg some (by kernel_rfl)),
  f9 := ⟨Tryz.f132.name, by decide, Tryz.func132.trans (congrArg some (by kernel_rfl))⟩,
  f19 := Tryz.func53.trans (congrArg some (by kernel_rfl)),
  f20 := Tryz.func54.trans (congrArg some (by kernel_rfl)),
  f21 := ⟨Tryz.f134.name, by decide, Tryz.func134.trans (congrArg some (by kernel_rfl))⟩,
  f22 := ⟨Tryz.f135.name, by decide, Tryz.func135.trans (congrArg some (by kernel_rfl))⟩,
  f23 := ⟨Tryz.f136.name, by decide, Tryz.func136.trans (congrArg some (by kernel_rfl))⟩,
  f24 := ⟨Tryz.f137.name, by decide, Tryz.func137.trans (congrArg some (by kernel_rfl))⟩,
  f25 := ⟨Tryz.f138.name, by decide, Tryz.func138.trans (congrArg some (by kernel_rfl))⟩,
  f26 := ⟨Tryz.f139.name, by decide, Tryz.func139.trans (congrArg some (by kernel_rfl))⟩,
  f27 := ⟨Tryz.f140.name, by decide, Tryz.func140.trans (congrArg some (by kernel_rfl))⟩,
  f28 := ⟨Tryz.f141.name, by decide, Tryz.func141.trans (congrArg some (by kernel_rfl))⟩,
  f29 := ⟨Tryz.f142.name, by decide, Tryz.func142.trans (congrArg some (by kernel_rfl))⟩,
  f31 := Tryz.func69.trans (congrArg some (by kernel_rfl)),
  f32 := Tryz.func70.trans (congrArg some (by kernel_rfl)),
  f36 := ⟨Tryz.f143.name, by decide, Tryz.func143.trans (congrArg some (by kernel_rfl))⟩,
  f37 := ⟨Tryz.f144.name, by decide, Tryz.func144.trans (congrArg some (by kernel_rfl))⟩,
  f38 := ⟨Tryz.f145.name, by decide, Tryz.func145.trans (congrArg some (by kernel_rfl))⟩,
  f39 := ⟨Tryz.f146.name, by decide, Tryz.func146.trans (congrArg some (by kernel_rfl))⟩,
  f41 := ⟨Tryz.f147.name, by decide, Tryz.func147.trans (congrArg some (by kernel_rfl))⟩,
  t0 := Tryz.underlying0,
  a0 := Tryz.isAgg0,
  z0 := Tryz.sizeOf0,
  v0 := Tryz.zeroValue0,
  t3 := Tryz.underlying3,
  a3 := Tryz.isAgg3,
  z3 := Tryz.sizeOf3,
  v3 := Tryz.zeroValue3,
  t4 := Tryz.underlying4,
  a4 := Tryz.isAgg4,
  z4 := Tryz.sizeOf4,
  v4 := Tryz.zeroValue4,
  t5 := Tryz.underlying5,
  a5 := Tryz.isAgg5,
  z5 := Tryz.sizeOf5,
  v5 := Tryz.zeroValue5,
  t9 := Tryz.underlying9,
  a9 := Tryz.isAgg9,
  z9 := Tryz.sizeOf9,
  v9 := Tryz.zeroValue9,
  t26 := Tryz.underlying67,
  a26 := Tryz.isAgg67,
  z26 := Tryz.sizeOf67,
  v26 := Tryz.zeroValue67,
  t27 := Tryz.underlying67,
  a27 := Tryz.isAgg67,
  z27 := Tryz.sizeOf67,
  v27 := Tryz.zeroValue67,
  t29 := Tryz.underlying9,
  a29 := Tryz.isAgg9,
  z29 := Tryz.sizeOf9,
  v29 := Tryz.zeroValue9,
  t32 := Tryz.underlying80,
  a32 := Tryz.isAgg80,
  z32 := Tryz.sizeOf80,
  v32 := Tryz.zeroValue80,
  t35 := Tryz.underlying90,
  a35 := Tryz.isAgg90,
  z35 := Tryz.sizeOf90,
  v35 := Tryz.zeroValue90,
  t36 := Tryz.underlying91,
  a36 := Tryz.isAgg91,
  z36 := Tryz.sizeOf91,
  v36 := Tryz.zeroValue91,
  t41 := Tryz.underlying96,
  a41 := Tryz.isAgg96,
  z41 := Tryz.sizeOf96,
  v41 := Tryz.zeroValue96,
  t44 := Tryz.underlying99,
  a44 := Tryz.isAgg99,
  z44 := Tryz.sizeOf99,
  v44 := Tryz.zeroValue99,
  t46 := Tryz.underlying101,
  a46 := Tryz.isAgg101,
  z46 := Tryz.sizeOf101,
  v46 := Tryz.zeroValue101,
  t53 := Tryz.underlying116,
  a53 := Tryz.isAgg116,
  z53 := Tryz.sizeOf116,
  v53 := Tryz.zeroValue116,
  t57 := Tryz.underlying120,
  a57 := Tryz.isAgg120,
  z57 := Tryz.sizeOf120,
  v57 := Tryz.zeroValue120,
  t63 := Tryz.underlying136,
  a63 := Tryz.isAgg136,
  z63 := Tryz.sizeOf136,
  v63 := Tryz.zeroValue136,
  t64 := Tryz.underlying137,
  a64 := Tryz.isAgg137,
  z64 := Tryz.sizeOf137,
  v64 := Tryz.zeroValue137 }

theorem sortsL (m : Nat) : AnyZ.SortsIn Tryz.prog sortedL_ren Fence.wide m :=
  ⟨fun blk off cap ss W hH hblk hsz => callsIn_wide.2 (AnyM.slices_Sort_string sortL blk off cap ss W hH hblk hsz),
   fun p cap W => callsIn_wide.2 (AnyM.slices_Sort_string_none sortL p cap W)⟩

theorem keys_any (mb : Option Nat) (W : World) : Calls Tryz.prog 124 #[.map mb] W fun e w' => e = .returned (.func (.func 129) #[] #[.pointer (some ⟨W.heap.size, 0, none⟩)]) ∧ w' = W.alloc (.cells #[.map mb] 40) :=
  callsIn_wide.1 (AnyZ.keys_in keysL Fence.wide 5 trivial rfl mb W)

set_option maxHeartbeats 1000000 in
/-- The keys sorted, in a new slice. 'w': the world ahead of maps.Keys. -/
theorem sortedKeys_any {H : Type} (b nn : Nat) (D0 : DataW H) (R : Value → Option (DataW H × List MemPlace)) (w : World) (hown : w.ownsMap Tryz.prog 9 R b nn D0) (hmax : Maps.size D0 ≤ maxLen) (hbytes : Maps.size D0 * 16 ≤ 140737488355328) :
    Calls Tryz.prog 123 #[.func (.func 129) #[] #[.pointer (some ⟨w.heap.size, 0, none⟩)]] (w.alloc (.cells #[.map (some b)] 40)) fun e w' => ∃ (v : Value) (ss : List (List UInt8)), e = .returned v ∧ ss.Perm (strKeys D0) ∧
      w'.ownsRow (w.alloc (.cells #[.map (some b)] 40)).heap.size 9 1 v ss.length ((ss.mergeSort (fun x y => decide (x ≤ y))).map encStr) ∧ (v = .slice none 0 0 ↔ ss = []) ∧ Below (w.alloc (.cells #[.map (some b)] 40)).heap.size (w.alloc (.cells #[.map (some b)] 40)) w' := by
  have hbl := hown.lt
  have hseq : SeqGives Fence.wide 2 Tryz.prog 129 #[.pointer (some ⟨w.heap.size, 0, none⟩)] encStr (fun ss => ss.Perm (strKeys D0)) (Maps.size D0) (w.alloc (.cells #[.map (some b)] 40)) :=
    AnyZ.keys_gives (ρ := keysL_ren) { keysL with } Fence.wide _ trivial rfl (by omega) w.heap.size b nn D0 _ (by simp) (by simp) (by
      obtain ⟨es, clock, hb, Ft, hs, hD⟩ := hown
      exact ⟨es, clock, (Below.heap_alloc _ _ b hbl).trans hb, Ft, hs, hD⟩)
  exact callsIn_wide.1 (AnyZ.sorted_in sortedL Fence.wide 5 trivial trivial trivial trivial rfl (by omega) (sortsL _) (enters_of Tryz.func128 (by kernel_rfl) rfl) 129 #[.pointer (some ⟨w.heap.size, 0, none⟩)] trivial (enters_of Tryz.func129 (by kernel_rfl) rfl) _ _ hmax hbytes _ hseq)

/-! ### the order of strings -/
theorem bb_lt : ∀ {a b : List UInt8}, bytesBefore a b = true → a < b
  | [], [], h => by simp [bytesBefore] at h
  | [], _ :: _, _ => by simp
  | _ :: _, [], h => by simp [bytesBefore] at h
  | x :: r, y :: s, h => by
    simp only [bytesBefore, Bool.or_eq_true, decide_eq_true_eq, Bool.and_eq_true, beq_iff_eq] at h
    rcases h with h | ⟨rfl, h⟩
    · exact List.Lex.rel h
    · exact List.Lex.cons (bb_lt h)
theorem bb_le {a b : List UInt8} (h : bytesBefore a b = true) : leB a b = true := by
  simp only [leB, decide_eq_true_eq]
  exact List.le_of_lt (bb_lt h)
theorem sorted_merge {fs : List FileA} (hs : Sorted fs) {ss : List (List UInt8)} (hp : ss.Perm (fs.map (·.1))) : ss.mergeSort (fun x y => decide (x ≤ y)) = fs.map (·.1) := by
  have e1 : ss.mergeSort leB = (fs.map (·.1)).mergeSort leB := mergeSort_of_perm hp
  refine e1.trans ?_
  refine List.mergeSort_of_pairwise ?_
  rw [List.pairwise_map]
  exact hs.imp fun h => bb_le h
theorem strKeys_mapD (bl : List UInt8 → Nat) (fs : List FileA) : strKeys (mapD bl fs) = fs.map (·.1) := by
  unfold mapD strKeys
  simp only [List.map_map]
  rfl

/-- The names of files, as a slice holds them. -/
def names (fs : List FileA) : List Value := fs.map fun f => encStr f.1

section
variable {w : World} {tag : Nat → Option Tag} {d : Nat} {room : Int} {fs : List FileA}
set_option maxRecDepth 100000 in
set_option maxHeartbeats 1600000 in
theorem files_made (h : Holds w tag d room fs) : Calls Tryz.prog 113 #[.pointer (some ⟨d, 0, none⟩)] w fun e w' => ∃ v, e = .returned v ∧ w'.ownsRow w.heap.size 9 1 v fs.length (names fs) ∧ Below w.heap.size w w' := by
  have HM := Lib.hid (made_yes h)
  obtain ⟨m, bl, g1, g2, g3, g4, g5⟩ := h.struct
  have c1 : w.cell? ⟨d, 1, none⟩ = some (.map (some m)) := cell_of_row w d 1 _ _ (0, 0) g1
  have hfew := h.few
  have HK := Lib.hid (keys_any (some m) w)
  have HS := Lib.hid (sortedKeys_any m fs.length (mapD bl fs) ptrElem w g4 (by rw [mapD_size]; unfold maxLen; omega) (by rw [mapD_size]; omega))
  have HR := Lib.hid h.rise
  clear g1 g4 g5 hfew
  go_enter Tryz.func113, Tryz.ntmps113
  go_wp2_with fail
  (with_reducible refine HM.out.mono ?_); rintro e w' ⟨rfl, rfl⟩
  go_wp2_with fail
  (with_reducible refine HK.out.mono ?_); rintro e w' ⟨rfl, rfl⟩
  go_wp2_with fail
  (with_reducible refine HS.out.mono ?_); rintro e w2 ⟨v, ss, rfl, hp, hrow, _, hb⟩
  have hp2 := hp
  rw [strKeys_mapD] at hp2
  have e1 := sorted_merge HR.out hp2
  have e2 : ss.length = fs.length := by rw [hp2.length_eq, List.length_map]
  rw [e1, e2, List.map_map] at hrow
  have HROW : Hid (w2.ownsRow w.heap.size 9 1 v fs.length (names fs)) := Lib.hid (ownsRow_base_a hrow (by simp))
  have HB := Lib.hid (((Below.refl _ w).alloc (Nat.le_refl _) _).trans (hb.mono (by simp)))
  clear hrow hb hp hp2 e1 e2
  go_wp2
  go_ret
  exact ⟨v, rfl, HROW.out, HB.out⟩
end
end Go.Proofs.YtakmndfcelghfaaGreatDoor
