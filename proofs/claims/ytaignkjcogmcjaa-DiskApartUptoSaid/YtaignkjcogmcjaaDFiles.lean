/- A made disk: Files. What the library's contracts say of its sort of a map's keys, laid at this program. -/
import Derived.Shelf.SlIter.Nil
import Derived.Shelf.SortM.Plain
import Derived.Shelf.SortM.SortNone
import Derived.Test.YtaignkjcogmcjaaDCopyM
namespace Go.Proofs.Ytaignkjcogmcjaa
open Go.RowKit Go.Maps Go.Sort Go.Shelf

def keysL_ren : Go.Shelf.Ren := ⟨fun | 7 => 49 | 10 => 62 | n => n, fun | 23 => 41 | 26 => 9 | 3 => 80 | 28 => 93 | 0 => 0 | 27 => 92 | 33 => 98 | 4 => 4 | n => n, fun | n => n⟩
theorem keysL : SlLaysZ.n7 Try.prog keysL_ren := {
  mixed := by kernel_rfl,
  f7 := ⟨Try.f49.name, by decide, Try.func49.trans (congrArg some (by kernel_rfl))⟩,
  f10 := ⟨Try.f62.name, by decide, Try.func62.trans (congrArg some (by kernel_rfl))⟩,
  t0 := Try.underlying0,
  a0 := Try.isAgg0,
  z0 := Try.sizeOf0,
  v0 := Try.zeroValue0,
  t4 := Try.underlying4,
  a4 := Try.isAgg4,
  z4 := Try.sizeOf4,
  v4 := Try.zeroValue4,
  t23 := Try.underlying41,
  a23 := Try.isAgg41,
  z23 := Try.sizeOf41,
  v23 := Try.zeroValue41,
  t26 := Try.underlying9,
  a26 := Try.isAgg9,
  z26 := Try.sizeOf9,
  v26 := Try.zeroValue9,
  t27 := Try.underlying92,
  a27 := Try.isAgg92,
  z27 := Try.sizeOf92,
  v27 := Try.zeroValue92,
  t28 := Try.underlying93,
  a28 := Try.isAgg93,
  z28 := Try.sizeOf93,
  v28 := Try.zeroValue93,
  t33 := Try.underlying98,
  a33 := Try.isAgg98,
  z33 := Try.sizeOf98,
  v33 := Try.zeroValue98 }
def sortedL_ren : Go.Shelf.Ren := ⟨fun | 6 => 48 | 8 => 60 | 9 => 61 | 11 => 69 | 13 => 71 | 12 => 70 | 23 => 81 | 24 => 82 | 14 => 72 | 15 => 73 | 16 => 74 | 17 => 75 | 18 => 76 | 19 => 77 | 20 => 78 | 21 => 79 | 22 => 80 | 25 => 83 | 26 => 84 | 27 => 85 | 28 => 86 | 29 => 87 | 30 => 88 | 31 => 89 | n => n, fun | 26 => 9 | 28 => 93 | 24 => 55 | 0 => 0 | 3 => 3 | 37 => 60 | 48 => 121 | 50 => 123 | 4 => 4 | 40 => 113 | 39 => 112 | 45 => 118 | 5 => 5 | 9 => 9 | 51 => 124 | 55 => 128 | 57 => 130 | 58 => 131 | 33 => 98 | n => n, fun | n => n⟩
theorem sortedL : SlLaysZ.n6 Try.prog sortedL_ren := {
  mixed := by kernel_rfl,
  f6 := ⟨Try.f48.name, by decide, Try.func48.trans (congrArg some (by kernel_rfl))⟩,
  f8 := ⟨Try.f60.name, by decide, Try.func60.trans (congrArg some (by kernel_rfl))⟩,
  f11 := ⟨Try.f69.name, by decide, Try.func69.trans (congrArg some (by kernel_rfl))⟩,
  t0 := Try.underlying0,
  a0 := Try.isAgg0,
  z0 := Try.sizeOf0,
  v0 := Try.zeroValue0,
  t24 := Try.underlying55,
  a24 := Try.isAgg55,
  z24 := Try.sizeOf55,
  v24 := Try.zeroValue55,
  t26 := Try.underlying9,
  a26 := Try.isAgg9,
  z26 := Try.sizeOf9,
  v26 := Try.zeroValue9,
  t28 := Try.underlying93,
  a28 := Try.isAgg93,
  z28 := Try.sizeOf93,
  v28 := Try.zeroValue93,
  i26 := by kernel_rfl }
def sortL_ren : Go.Shelf.Ren := ⟨fun | 6 => 61 | 8 => 71 | 9 => 70 | 19 => 81 | 20 => 82 | 21 => 72 | 22 => 73 | 23 => 74 | 24 => 75 | 25 => 76 | 26 => 77 | 27 => 78 | 28 => 79 | 29 => 80 | 36 => 83 | 31 => 84 | 32 => 85 | 37 => 86 | 38 => 87 | 39 => 88 | 41 => 89 | n => n, fun | 27 => 55 | 29 => 9 | 3 => 3 | 32 => 60 | 26 => 55 | 0 => 0 | 44 => 121 | 46 => 123 | 4 => 4 | 36 => 113 | 35 => 112 | 41 => 118 | 5 => 5 | 9 => 9 | 53 => 124 | 57 => 128 | 63 => 130 | 64 => 131 | n => n, fun | n => n⟩
theorem sortL : SlLaysM.n6 Try.prog sortL_ren := {
  mixed := by kernel_rfl,
  f6 := ⟨Try.f61.name, by decide, Try.func61.trans (congrArg some (by kernel_rfl))⟩,
  f8 := Try.func71.trans (congrArg some (by kernel_rfl)),
  f9 := ⟨Try.f70.name, by decide, Try.func70.trans (congrArg some (by kernel_rfl))⟩,
  f19 := Try.func81.trans (congrArg some (by kernel_rfl)),
  f20 := Try.func82.trans (congrArg some (by kernel_rfl)),
  f21 := ⟨Try.f72.name, by decide, Try.func72.trans (congrArg some (by kernel_rfl))⟩,
  f22 := ⟨Try.f73.name, by decide, Try.func73.trans (congrArg some (by kernel_rfl))⟩,
  f23 := ⟨Try.f74.name, by decide, Try.func74.trans (congrArg some (by kernel_rfl))⟩,
  f24 := ⟨Try.f75.name, by decide, Try.func75.trans (congrArg some (by kernel_rfl))⟩,
  f25 := ⟨Try.f76.name, by decide, Try.func76.trans (congrArg some (by kernel_rfl))⟩,
  f26 := ⟨Try.f77.name, by decide, Try.func77.trans (congrArg some (by kernel_rfl))⟩,
  f27 := ⟨Try.f78.name, by decide, Try.func78.trans (congrArg some (by kernel_rfl))⟩,
  f28 := ⟨Try.f79.name, by decide, Try.func79.trans (congrArg some (by kernel_rfl))⟩,
  f29 := ⟨Try.f80.name, by decide, Try.func80.trans (congrArg some (by kernel_rfl))⟩,
  f31 := Try.func84.trans (congrArg some (by kernel_rfl)),
  f32 := Try.func85.trans (congrArg some (by kernel_rfl)),
  f36 := ⟨Try.f83.name, by decide, Try.func83.trans (congrArg some (by kernel_rfl))⟩,
  f37 := ⟨Try.f86.name, by decide, Try.func86.trans (congrArg some (by kernel_rfl))⟩,
  f38 := ⟨Try.f87.name, by decide, Try.func87.trans (congrArg some (by kernel_rfl))⟩,
  f39 := ⟨Try.f88.name, by decide, Try.func88.trans (congrArg some (by kernel_rfl))⟩,
  f41 := ⟨Try.f89.name, by decide, Try.func89.trans (congrArg some (by kernel_rfl))⟩,
  t0 := Try.underlying0,
  a0 := Try.isAgg0,
  z0 := Try.sizeOf0,
  v0 := Try.zeroValue0,
  t3 := Try.underlying3,
  a3 := Try.isAgg3,
  z3 := Try.sizeOf3,
  v3 := Try.zeroValue3,
  t4 := Try.underlying4,
  a4 := Try.isAgg4,
  z4 := Try.sizeOf4,
  v4 := Try.zeroValue4,
  t5 := Try.underlying5,
  a5 := Try.isAgg5,
  z5 := Try.sizeOf5,
  v5 := Try.zeroValue5,
  t9 := Try.underlying9,
  a9 := Try.isAgg9,
  z9 := Try.sizeOf9,
  v9 := Try.zeroValue9,
  t26 := Try.underlying55,
  a26 := Try.isAgg55,
  z26 := Try.sizeOf55,
  v26 := Try.zeroValue55,
  t27 := Try.underlying55,
  a27 := Try.isAgg55,
  z27 := Try.sizeOf55,
  v27 := Try.zeroValue55,
  t29 := Try.underlying9,
  a29 := Try.isAgg9,
  z29 := Try.sizeOf9,
  v29 := Try.zeroValue9,
  t32 := Try.underlying60,
  a32 := Try.isAgg60,
  z32 := Try.sizeOf60,
  v32 := Try.zeroValue60,
  t35 := Try.underlying112,
  a35 := Try.isAgg112,
  z35 := Try.sizeOf112,
  v35 := Try.zeroValue112,
  t36 := Try.underlying113,
  a36 := Try.isAgg113,
  z36 := Try.sizeOf113,
  v36 := Try.zeroValue113,
  t41 := Try.underlying118,
  a41 := Try.isAgg118,
  z41 := Try.sizeOf118,
  v41 := Try.zeroValue118,
  t44 := Try.underlying121,
  a44 := Try.isAgg121,
  z44 := Try.sizeOf121,
  v44 := Try.zeroValue121,
  t46 := Try.underlying123,
  a46 := Try.isAgg123,
  z46 := Try.sizeOf123,
  v46 := Try.zeroValue123,
  t53 := Try.underlying124,
  a53 := Try.isAgg124,
  z53 := Try.sizeOf124,
  v53 := Try.zeroValue124,
  t57 := Try.underlying128,
  a57 := Try.isAgg128,
  z57 := Try.sizeOf128,
  v57 := Try.zeroValue128,
  t63 := Try.underlying130,
  a63 := Try.isAgg130,
  z63 := Try.sizeOf130,
  v63 := Try.zeroValue130,
  t64 := Try.underlying131,
  a64 := Try.isAgg131,
  z64 := Try.sizeOf131,
  v64 := Try.zeroValue131 }

theorem sortsL (m : Nat) : AnyZ.SortsIn Try.prog sortedL_ren Fence.wide m :=
  ⟨fun blk off cap ss W hH hblk hsz => callsIn_wide.2 (AnyM.slices_Sort_string sortL blk off cap ss W hH hblk hsz),
   fun p cap W => callsIn_wide.2 (AnyM.slices_Sort_string_none sortL p cap W)⟩

theorem keys_any (mb : Option Nat) (W : World) : Calls Try.prog 49 #[.map mb] W fun e w' => e = .returned (.func (.func 62) #[] #[.pointer (some ⟨W.heap.size, 0, none⟩)]) ∧ w' = W.alloc (.cells #[.map mb] 41) :=
  callsIn_wide.1 (AnyZ.keys_in keysL Fence.wide 5 trivial rfl mb W)

set_option maxHeartbeats 1000000 in
/-- The keys sorted, in a new slice. 'w': the world ahead of maps.Keys. -/
theorem sortedKeys_any {H : Type} (b nn : Nat) (D0 : DataW H) (R : Value → Option (DataW H × List MemPlace)) (w : World) (hown : w.ownsMap Try.prog 9 R b nn D0) (hmax : Maps.size D0 ≤ maxLen) (hbytes : Maps.size D0 * 16 ≤ 140737488355328) :
    Calls Try.prog 48 #[.func (.func 62) #[] #[.pointer (some ⟨w.heap.size, 0, none⟩)]] (w.alloc (.cells #[.map (some b)] 41)) fun e w' => ∃ (v : Value) (ss : List (List UInt8)), e = .returned v ∧ ss.Perm (strKeys D0) ∧
      w'.ownsRow (w.alloc (.cells #[.map (some b)] 41)).heap.size 9 1 v ss.length ((ss.mergeSort (fun x y => decide (x ≤ y))).map encStr) ∧ (v = .slice none 0 0 ↔ ss = []) ∧ Below (w.alloc (.cells #[.map (some b)] 41)).heap.size (w.alloc (.cells #[.map (some b)] 41)) w' := by
  have hbl := hown.lt
  have hseq : SeqGives Fence.wide 2 Try.prog 62 #[.pointer (some ⟨w.heap.size, 0, none⟩)] encStr (fun ss => ss.Perm (strKeys D0)) (Maps.size D0) (w.alloc (.cells #[.map (some b)] 41)) :=
    AnyZ.keys_gives (ρ := keysL_ren) { keysL with } Fence.wide _ trivial rfl (by omega) w.heap.size b nn D0 _ (by simp) (by simp) (by
      obtain ⟨es, clock, hb, Ft, hs, hD⟩ := hown
      exact ⟨es, clock, (Below.heap_alloc _ _ b hbl).trans hb, Ft, hs, hD⟩)
  exact callsIn_wide.1 (AnyZ.sorted_in sortedL Fence.wide 5 trivial trivial trivial trivial rfl (by omega) (sortsL _) (enters_of Try.func61 (by kernel_rfl) rfl) 62 #[.pointer (some ⟨w.heap.size, 0, none⟩)] trivial (enters_of Try.func62 (by kernel_rfl) rfl) _ _ hmax hbytes _ hseq)

/-! ### the order of strings -/
theorem bb_lt : ∀ {a b : List UInt8}, bytesBefore a b = true → a < b
  | [], [], h => by simp [bytesBefore] at h
  | [], _ :: _, _ => by simp
  | _ :: _, [], h => by simp [bytesBefore] at h
  | x :: r, y :: s, h => by
    simp only [bytesBefore, Bool.or_eq_true, decide_eq_true_eq, Bool.and_eq_true, beq_iff_eq] at h
    rcases h with h | ⟨rfl, h⟩
    · exact List.Lex.rel h
    · exact List.Lex.cons (bb_lt h)
theorem bb_le {a b : List UInt8} (h : bytesBefore a b = true) : leB a b = true := by
  simp only [leB, decide_eq_true_eq]
  exact List.le_of_lt (bb_lt h)
theorem sorted_merge {fs : List FileA} (hs : Sorted fs) {ss : List (List UInt8)} (hp : ss.Perm (fs.map (·.1))) : ss.mergeSort (fun x y => decide (x ≤ y)) = fs.map (·.1) := by
  have e1 : ss.mergeSort leB = (fs.map (·.1)).mergeSort leB := mergeSort_of_perm hp
  refine e1.trans ?_
  refine List.mergeSort_of_pairwise ?_
  rw [List.pairwise_map]
  exact hs.imp fun h => bb_le h
theorem strKeys_mapD (bl : List UInt8 → Nat) (fs : List FileA) : strKeys (mapD bl fs) = fs.map (·.1) := by
  unfold mapD strKeys
  simp only [List.map_map]
  rfl

/-- The names of files, as a slice holds them. -/
def names (fs : List FileA) : List Value := fs.map fun f => encStr f.1

section
variable {w : World} {tag : Nat → Option Tag} {d : Nat} {room : Int} {fs : List FileA}
set_option maxRecDepth 100000 in
set_option maxHeartbeats 1600000 in
theorem files_made (h : Holds w tag d room fs) : Calls Try.prog 26 #[.pointer (some ⟨d, 0, none⟩)] w fun e w' => ∃ v, e = .returned v ∧ w'.ownsRow w.heap.size 9 1 v fs.length (names fs) ∧ Below w.heap.size w w' := by
  have HM := Lib.hid (made_yes h)
  obtain ⟨m, bl, g1, g2, g3, g4, g5⟩ := h.struct
  have c1 : w.cell? ⟨d, 1, none⟩ = some (.map (some m)) := cell_of_row w d 1 _ _ (0, 0) g1
  have hfew := h.few
  have HK := Lib.hid (keys_any (some m) w)
  have HS := Lib.hid (sortedKeys_any m fs.length (mapD bl fs) ptrElem w g4 (by rw [mapD_size]; unfold maxLen; omega) (by rw [mapD_size]; omega))
  have HR := Lib.hid h.rise
  clear g1 g4 g5 hfew
  go_enter Try.func26, Try.ntmps26
  go_wp2_with fail
  (with_reducible refine HM.out.mono ?_); rintro e w' ⟨rfl, rfl⟩
  go_wp2_with fail
  (with_reducible refine HK.out.mono ?_); rintro e w' ⟨rfl, rfl⟩
  go_wp2_with fail
  (with_reducible refine HS.out.mono ?_); rintro e w2 ⟨v, ss, rfl, hp, hrow, _, hb⟩
  have hp2 := hp
  rw [strKeys_mapD] at hp2
  have e1 := sorted_merge HR.out hp2
  have e2 : ss.length = fs.length := by rw [hp2.length_eq, List.length_map]
  rw [e1, e2, List.map_map] at hrow
  have HROW : Hid (w2.ownsRow w.heap.size 9 1 v fs.length (names fs)) := Lib.hid (ownsRow_base_a hrow (by simp))
  have HB := Lib.hid (((Below.refl _ w).alloc (Nat.le_refl _) _).trans (hb.mono (by simp)))
  clear hrow hb hp hp2 e1 e2
  go_wp2
  go_ret
  exact ⟨v, rfl, HROW.out, HB.out⟩
end
end Go.Proofs.Ytaignkjcogmcjaa
