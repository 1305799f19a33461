/- slices.SortFunc at spans: the contract of the shelf. -/
import Derived.Test.YtfplblhmeohhmaaCSpan2
import Derived.Ground.SlsfProg
namespace Go.Proofs.Ytfplblhmeohhmaa
open Go.Shelf Go.RowKit Go.Lib Go.Sort

def sortS_ren : Go.Shelf.Ren := ⟨fun | 6 => 145 | 15 => 157 | 14 => 159 | 28 => 173 | 29 => 174 | 20 => 175 | 21 => 176 | 22 => 177 | 23 => 178 | 24 => 179 | 25 => 180 | 26 => 181 | 27 => 182 | 46 => 191 | 47 => 186 | 48 => 187 | 49 => 192 | 50 => 193 | 57 => 195 | n => n, fun | 22 => 154 | 24 => 156 | 25 => 190 | 3 => 3 | 39 => 73 | 0 => 0 | 53 => 212 | 55 => 214 | 4 => 4 | 46 => 205 | 45 => 204 | 50 => 150 | 5 => 5 | 9 => 9 | 66 => 220 | 70 => 224 | 76 => 228 | 77 => 229 | n => n, fun | n => n⟩
theorem sortS : SlLaysF0.n6 Try.prog sortS_ren := {
  mixed := by kernel_rfl,
  f6 := ⟨Try.f145.name, by decide, Try.func145.trans (congrArg some (by kernel_rfl))⟩,
  f14 := ⟨Try.f159.name, by decide, Try.func159.trans (congrArg some (by kernel_rfl))⟩,
  f15 := Try.func157.trans (congrArg some (by kernel_rfl)),
  f20 := ⟨Try.f175.name, by decide, Try.func175.trans (congrArg some (by kernel_rfl))⟩,
  f21 := ⟨Try.f176.name, by decide, Try.func176.trans (congrArg some (by kernel_rfl))⟩,
  f22 := ⟨Try.f177.name, by decide, Try.func177.trans (congrArg some (by kernel_rfl))⟩,
  f23 := ⟨Try.f178.name, by decide, Try.func178.trans (congrArg some (by kernel_rfl))⟩,
  f24 := ⟨Try.f179.name, by decide, Try.func179.trans (congrArg some (by kernel_rfl))⟩,
  f25 := ⟨Try.f180.name, by decide, Try.func180.trans (congrArg some (by kernel_rfl))⟩,
  f26 := ⟨Try.f181.name, by decide, Try.func181.trans (congrArg some (by kernel_rfl))⟩,
  f27 := ⟨Try.f182.name, by decide, Try.func182.trans (congrArg some (by kernel_rfl))⟩,
  f28 := Try.func173.trans (congrArg some (by kernel_rfl)),
  f29 := Try.func174.trans (congrArg some (by kernel_rfl)),
  f46 := ⟨Try.f191.name, by decide, Try.func191.trans (congrArg some (by kernel_rfl))⟩,
  f47 := Try.func186.trans (congrArg some (by kernel_rfl)),
  f48 := Try.func187.trans (congrArg some (by kernel_rfl)),
  f49 := ⟨Try.f192.name, by decide, Try.func192.trans (congrArg some (by kernel_rfl))⟩,
  f50 := ⟨Try.f193.name, by decide, Try.func193.trans (congrArg some (by kernel_rfl))⟩,
  f57 := ⟨Try.f195.name, by decide, Try.func195.trans (congrArg some (by kernel_rfl))⟩,
  t0 := Try.underlying0,
  a0 := Try.isAgg0,
  z0 := Try.sizeOf0,
  v0 := Try.zeroValue0,
  t3 := Try.underlying3,
  a3 := Try.isAgg3,
  z3 := Try.sizeOf3,
  v3 := Try.zeroValue3,
  t4 := Try.underlying4,
  a4 := Try.isAgg4,
  z4 := Try.sizeOf4,
  v4 := Try.zeroValue4,
  t5 := Try.underlying5,
  a5 := Try.isAgg5,
  z5 := Try.sizeOf5,
  v5 := Try.zeroValue5,
  t9 := Try.underlying9,
  a9 := Try.isAgg9,
  z9 := Try.sizeOf9,
  v9 := Try.zeroValue9,
  t22 := Try.underlying154,
  a22 := Try.isAgg154,
  z22 := Try.sizeOf154,
  v22 := Try.zeroValue154,
  t25 := Try.underlying190,
  a25 := Try.isAgg190,
  z25 := Try.sizeOf190,
  v25 := Try.zeroValue190,
  t39 := Try.underlying73,
  a39 := Try.isAgg73,
  z39 := Try.sizeOf73,
  v39 := Try.zeroValue73,
  t45 := Try.underlying204,
  a45 := Try.isAgg204,
  z45 := Try.sizeOf204,
  v45 := Try.zeroValue204,
  t46 := Try.underlying205,
  a46 := Try.isAgg205,
  z46 := Try.sizeOf205,
  v46 := Try.zeroValue205,
  t50 := Try.underlying150,
  a50 := Try.isAgg150,
  z50 := Try.sizeOf150,
  v50 := Try.zeroValue150,
  t53 := Try.underlying212,
  a53 := Try.isAgg212,
  z53 := Try.sizeOf212,
  v53 := Try.zeroValue212,
  t55 := Try.underlying214,
  a55 := Try.isAgg214,
  z55 := Try.sizeOf214,
  v55 := Try.zeroValue214,
  t66 := Try.underlying220,
  a66 := Try.isAgg220,
  z66 := Try.sizeOf220,
  v66 := Try.zeroValue220,
  t70 := Try.underlying224,
  a70 := Try.isAgg224,
  z70 := Try.sizeOf224,
  v70 := Try.zeroValue224,
  t76 := Try.underlying228,
  a76 := Try.isAgg228,
  z76 := Try.sizeOf228,
  v76 := Try.zeroValue228,
  t77 := Try.underlying229,
  a77 := Try.isAgg229,
  z77 := Try.sizeOf229,
  v77 := Try.zeroValue229 }

def encS (s : SpanA) : List Value := [.int .i64 s.1, .int .i64 s.2.1, .int .i64 s.2.2.1, .int .i64 s.2.2.2]
/-- One span stands ahead of another. -/
def ltS (a b : SpanA) : Prop := ltA (actOf a.2) (actOf b.2) ∨ (actOf a.2 = actOf b.2 ∧ a.1 < b.1)
theorem cmpS_lt (a b : SpanA) : cmpS a b < 0 ↔ ltS a b := by
  unfold cmpS orI ltS
  by_cases h : cmpA (actOf a.2) (actOf b.2) = 0
  · rw [if_pos h, cmpI_lt]
    have e := cmpA_eq.1 h
    exact ⟨fun h2 => .inr ⟨e, h2⟩, fun h2 => h2.elim (fun h3 => absurd e (ltA_ne h3)) fun h3 => h3.2⟩
  · rw [if_neg h, cmpA_lt]
    exact ⟨.inl, fun h2 => h2.elim id fun h3 => absurd (cmpA_eq.2 h3.1) h⟩
theorem ltOf_cmpS (x y : SpanA) : ltOf cmpS x y = true ↔ ltS x y := by
  unfold ltOf
  rw [decide_eq_true_iff, cmpS_lt]
theorem ltS_flat (x y : SpanA) : ltS x y ↔ x.2.1 < y.2.1 ∨ (x.2.1 = y.2.1 ∧ (x.2.2.1 < y.2.2.1 ∨ (x.2.2.1 = y.2.2.1 ∧ x.1 < y.1))) := by
  unfold ltS ltA actOf
  simp only [Prod.mk.injEq]
  omega
theorem swoS : SWO (ltOf cmpS) where
  irrefl x := by
    cases h : ltOf cmpS x x with
    | false => rfl
    | true => rw [ltOf_cmpS, ltS_flat] at h; omega
  trans x y z h1 h2 := by
    rw [ltOf_cmpS, ltS_flat] at *; omega
  ntrans x y z h1 h2 := by
    cases h : ltOf cmpS x z with
    | false => rfl
    | true =>
      rw [ltOf_cmpS, ltS_flat] at h
      have a1 : ¬ ltS x y := fun e => by rw [← ltOf_cmpS] at e; rw [h1] at e; cases e
      have a2 : ¬ ltS y z := fun e => by rw [← ltOf_cmpS] at e; rw [h2] at e; cases e
      rw [ltS_flat] at a1 a2
      omega
theorem cmpLaysS (blk off size : Nat) (w : World) : CmpLays Try.prog 146 #[] encS 4 cmpS blk off size w := fun _ _ _ _ x y => cmpS_grow x y _
/-- The spans sorted. -/
theorem sort_any (blk off cap : Nat) (d : Array SpanA) (w : World) (hH : HoldsK encS 4 w blk off d) (hblk : blk < w.heap.size) (hsz : d.size < 4611686018427387904) :
    Calls Try.prog 145 #[.slice (some ⟨blk, off, none⟩) d.size cap, .func (.func 146) #[] #[]] w fun e w' => e = .returned (.tuple #[]) ∧ ∃ d' n os, PermIn 0 d.size d d' ∧ SortedIn (ltOf cmpS) 0 d.size d' ∧ w' = sortWorldK encS 4 w blk off n d' os := by
  have eg : ∀ args w, (callFunc 146 args).run Try.prog w = .ok (.enter 146 args) w := enters_of Try.func146 (by kernel_rfl) rfl
  exact AnyQ.slices_SortFunc sortS 4 Try.isAgg156 Try.sizeOf156 encS (fun _ => rfl) (fun x v hv => by simp [encS] at hv; rcases hv with rfl | rfl | rfl | rfl <;> rfl) cmpS swoS 146 #[] blk off cap d w eg (cmpLaysS blk off d.size w) hH hblk hsz
end Go.Proofs.Ytfplblhmeohhmaa
