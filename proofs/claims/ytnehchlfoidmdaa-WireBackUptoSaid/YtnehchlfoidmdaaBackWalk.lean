/- The walk of WireBack. -/
import Derived.Test.YtnehchlfoidmdaaFormWalk
import Derived.Test.YtnehchlfoidmdaaText
namespace Go.Proofs.Ytnehchlfoidmdaa
open Go.RowKit
open Go.Lib (byteCells byteCells_length byteCells_append strCells strCells_eq)

theorem text_back (s : List UInt8) (tail : List UInt8) (h : s.length ≤ 9223372036854775807) : textOf s.length (num s.length ++ (s ++ tail)) = (s, (num s.length).length + s.length, 0) := by
  have hu := uint_num s.length (s ++ tail) h
  unfold textOf
  rw [hu]
  simp only []
  rw [if_neg (by simp), if_neg (by omega), if_neg (by simp), List.drop_left, List.take_left]

theorem str_list (s : ByteArray) : (⟨s.data.toList.toArray⟩ : ByteArray) = s := by cases s; simp

set_option maxRecDepth 100000 in
set_option maxHeartbeats 4000000 in
theorem back_nat (n : Nat) (hn : n ≤ 9223372036854775807) (t : ByteArray) (vp vb : Value) (ps bs : List UInt8) (w : World) (hp : Rd w 0 w.heap.size vp ps) (hb : Rd w 0 w.heap.size vb bs) (lt : t.size ≤ 1073741824) (lp : ps.length ≤ 1073741824) (lb : bs.length ≤ 1073741824) :
    Calls Try.prog 6 #[.int .i64 (n : Int), .string t, vp, vb] w fun e w' => e = .returned (.bool true) ∧ Below w.heap.size w w' := by
  have hp0 := hp
  have hb0 := hb
  obtain ⟨P, cp, rfl, hcp, hpx⟩ := hp
  obtain ⟨B, cb, rfl, hcb, hbx⟩ := hb
  have ln := num_length n
  have lt2 := num_length t.size
  obtain ⟨xs, hxs⟩ : ∃ xs, Hid (xs = num n ++ num t.size ++ t.data.toList) := ⟨_, Lib.hid rfl⟩
  have lx : xs.length ≤ 2147483648 := by rw [hxs.out]; simp; omega
  obtain ⟨ys, hys⟩ : ∃ ys, Hid (ys = xs ++ bs) := ⟨_, Lib.hid rfl⟩
  have ly : ys.length ≤ 4294967296 := by rw [hys.out]; simp; omega
  have hly : Hid (ys.length = (num n).length + ((num t.size).length + t.size) + bs.length) := Lib.hid (by rw [hys.out, hxs.out]; simp; omega)
  have hyu : Hid (uint ys = (n, (num n).length, 0)) := Lib.hid (by
    have := uint_num n (num t.size ++ (t.data.toList ++ bs)) (by omega)
    rw [hys.out, hxs.out]; simpa using this)
  have hyt : Hid (textOf t.size (ys.drop (num n).length) = (t.data.toList, (num t.size).length + t.size, 0)) := Lib.hid (by
    have := text_back t.data.toList bs (by rw [size_list]; omega)
    rw [size_list] at this
    rw [hys.out, hxs.out, List.append_assoc, List.append_assoc, List.drop_left]
    simpa using this)
  have hPut := Lib.hid (show ∀ w, Calls Try.prog 11 #[.slice none 0 0, .int .i64 (n : Int)] w (Gives (num n) w) from fun w => (put_any (.slice none 0 0) [] (n : Int) w (rd_nil _ _ _) (by simp) (by omega)).mono fun _ _ h => by simpa using h)
  go_enter Try.func6, Try.ntmps6
  go_wp2_with fail
  (with_reducible refine (hPut.out w).mono ?_)
  rintro e w1 ⟨v1, rfl, hown1, hb1⟩
  have s01 := hb1.size
  go_wp2_with fail
  (with_reducible refine (text_any v1 (num n) t w1 (hown1.rd.mono (Nat.zero_le _) (Nat.le_refl _)) (by omega) (by omega)).mono ?_)
  rintro e w2 ⟨v2, rfl, hown2, hb2⟩
  rw [← hxs.out] at hown2
  have b02 := hb1.trans (hb2.mono s01)
  have hbx2 : RdA w2 0 w.heap.size B bs := hbx.keep fun p _ hp => b02.cell hp
  go_wp2_with (at_builtin; refine wpList_append_rd _ rfl (.tmp 24) (.tmp 25) rfl rfl hown2 rfl rfl hbx2 ?_ hb2.size ?_)
  case _ => omega
  intro v3 w3 hown3 hg3 _
  rw [← hys.out] at hown3
  have b03 := b02.grown hg3 b02.size (fun k hk => Nat.le_trans s01 (hown2.lt k hk).1)
  have R3 := Lib.hid (show Rd w3 0 w3.heap.size v3 ys from hown3.rd.mono (Nat.zero_le _) (Nat.le_refl _))
  clear hown3 hown2 hown1 hbx2 hg3 hb2 hb1 b02
  go_wp2_with fail
  refine (over_any v3 ys w3 R3.out (by omega)).mono ?_
  rintro e w4 ⟨g, D, d, rfl, hg, hrd, hrx, hb4⟩
  have hlt4 := hrd.lt
  have b04 := b03.trans (hb4.mono b03.size)
  have hm := uint_made g D d ys 0 w3.heap.size g w4 hrd hrx (Nat.le_of_lt hlt4) (.inl (Nat.le_refl _))
  rw [List.drop_zero, hyu.out, Nat.zero_add] at hm
  have hm2 : Calls Try.prog 23 #[.pointer (some ⟨g, 0, none⟩)] w4 (Reads (.int .i64 (n : Int)) 0 (num n).length g D d ys w4) := hm
  have HM := Lib.hid hm2
  clear hm hm2
  go_wp2_with fail
  (with_reducible refine HM.out.mono ?_)
  rintro e w5 hR5
  obtain rfl := hR5.ending
  have hgw : w.heap.size ≤ g := Nat.le_trans b03.size hg
  have b05 := b04.grown hR5.grown b04.size (by simp; omega)
  have hrx5 : RdA w5 w3.heap.size g D ys := hrx.keep fun q h1 h2 => World.cell?_of_block (hR5.grown.block q.block (by omega) (by simp; omega))
  have hlt5 := hR5.rdr.lt
  have ht := text_made g D d ys (num n).length w3.heap.size g (t.size : Int) w5 hR5.rdr hrx5 (Nat.le_of_lt hlt5) (.inl (Nat.le_refl _))
  rw [Int.toNat_natCast, hyt.out] at ht
  simp only [] at ht
  rw [str_list] at ht
  have HT := Lib.hid ht
  clear ht hR5 hrd hrx hrx5
  go_wp2_with fail
  (with_reducible refine HT.out.mono ?_)
  rintro e w6 hR6
  obtain rfl := hR6.ending
  have b06 := b05.grown hR6.grown b05.size (by simp; omega)
  have hL := left_made g D d ys _ w6 hR6.rdr
  rw [show (ys.length : Int) - (((num n).length + ((num t.size).length + t.size) : Nat) : Int) = (bs.length : Int) by have := hly.out; omega] at hL
  have HL := Lib.hid hL
  clear hL hR6
  go_wp2_with fail
  (with_reducible refine HL.out.mono ?_)
  rintro e w7 ⟨rfl, j, rfl⟩
  have b07 : Below w.heap.size w (w6.drewN j) := below_drewN b06 j
  have HF := Lib.hid (frame_any _ ps (w6.drewN j) ((hp0.below b07 (Nat.le_refl _)).mono (Nat.le_refl _) b07.size) (by omega))
  go_wp2_with fail
  (with_reducible refine HF.out.mono ?_)
  rintro e w8 (⟨hbig, rfl, hb8⟩ | ⟨hsm, v8, rfl, hown8, hb8⟩)
  · have b08 := b07.trans (hb8.mono b07.size)
    go_wp2
    go_ret
    exact ⟨rfl, b08⟩
  have b08 := b07.trans (hb8.mono b07.size)
  have lfr := frameOf_len ps
  have lnp := num_length ps.length
  obtain ⟨fr, hfr⟩ : ∃ fr, Hid (fr = frameOf ps) := ⟨_, Lib.hid rfl⟩
  rw [← hfr.out] at hown8 lfr
  have lfr2 : fr.length ≤ 65600 := by omega
  have LFR := Lib.hid lfr
  clear lfr
  obtain ⟨zs, hzs⟩ : ∃ zs, Hid (zs = fr ++ bs) := ⟨_, Lib.hid rfl⟩
  have lzs : zs.length ≤ 1099511627776 := by rw [hzs.out]; simp; omega
  have hun : Hid (unfr zs = ((num ps.length).length, ps.length, 0)) := Lib.hid (by rw [hzs.out, hfr.out]; exact unfr_frame ps bs (by omega))
  have hz1 : Hid ((zs.drop (num ps.length).length).take ps.length = ps) := Lib.hid (by
    rw [hzs.out, hfr.out]; unfold frameOf
    rw [List.append_assoc, List.append_assoc, List.drop_left]
    exact List.take_left)
  have hz2 : Hid (zs.drop ((num ps.length).length + ps.length + 4) = bs) := Lib.hid (by
    have : (num ps.length).length + ps.length + 4 = fr.length := by have := LFR.out; omega
    rw [this, hzs.out]; exact List.drop_left)
  go_wp2_with fail
  refine (clone_any v8 fr w8 (hown8.rd.mono (Nat.zero_le _) (Nat.le_refl _)) (by omega)).mono ?_
  rintro e w9 ⟨v9, rfl, hown9, hb9⟩
  have b09 := b08.trans (hb9.mono b08.size)
  have hbx9 : RdA w9 0 w.heap.size B bs := hbx.keep fun p _ hp => b09.cell hp
  go_wp2_with (at_builtin; refine wpList_append_rd _ rfl (.tmp 76) (.tmp 77) rfl rfl hown9 rfl rfl hbx9 ?_ hb9.size ?_)
  case _ => omega
  intro v10 w10 hown10 hg10 _
  rw [← hzs.out] at hown10
  have b10 := b09.grown hg10 b09.size (fun k hk => Nat.le_trans b08.size (hown9.lt k hk).1)
  have HU := Lib.hid (unframe_any v10 zs w10 (hown10.rd.mono (Nat.zero_le _) (Nat.le_refl _)) lzs)
  clear hown10 hown9 hown8 hg10 hbx9
  go_wp2_with fail
  (with_reducible refine HU.out.mono ?_)
  rintro e w11 (⟨hz, _, _⟩ | ⟨_, v11, v12, rfl, hown11, hown12, hb11⟩)
  · exact absurd (by rw [hun.out]) hz
  rw [hun.out] at hown11 hown12
  simp only [] at hown11 hown12
  rw [hz1.out] at hown11
  rw [hz2.out] at hown12
  have b11 := b10.trans (hb11.mono b10.size)
  have hpx11 := Lib.hid (hp0.below b11 (Nat.le_refl _))
  have hbx11 := Lib.hid (hb0.below b11 (Nat.le_refl _))
  go_wp2_with fail
  (with_reducible refine (equal_same (.slice P ps.length cp) v11 ps _ _ _ _ w11 hpx11.out hown11.rd (by omega)).mono ?_)
  rintro e y1 ⟨rfl, n1, rfl⟩
  go_wp2_with fail
  (with_reducible refine (equal_same v12 (.slice B bs.length cb) bs _ _ _ _ _ (hown12.rd.drewN _) (hbx11.out.drewN _) (by omega)).mono ?_)
  rintro e y2 ⟨rfl, n2, rfl⟩
  go_wp2
  go_ret
  exact ⟨rfl, below_drewN b11 _⟩

set_option maxRecDepth 100000 in
set_option maxHeartbeats 4000000 in
theorem back_neg (n : Int) (hn : n < 0) (t : ByteArray) (vp vb : Value) (ps bs : List UInt8) (w : World) (hp : Rd w 0 w.heap.size vp ps) (hb : Rd w 0 w.heap.size vb bs) (lt : t.size ≤ 1073741824) (lp : ps.length ≤ 1073741824) (lb : bs.length ≤ 1073741824) :
    Calls Try.prog 6 #[.int .i64 n, .string t, vp, vb] w fun e w' => e = .returned (.bool true) ∧ Below w.heap.size w w' := by
  have hp0 := hp
  have hb0 := hb
  obtain ⟨P, cp, rfl, hcp, hpx⟩ := hp
  obtain ⟨B, cb, rfl, hcb, hbx⟩ := hb
  have ln := num_length 0
  have lt2 := num_length t.size
  obtain ⟨xs, hxs⟩ : ∃ xs, Hid (xs = num 0 ++ num t.size ++ t.data.toList) := ⟨_, Lib.hid rfl⟩
  have lx : xs.length ≤ 2147483648 := by rw [hxs.out]; simp; omega
  obtain ⟨ys, hys⟩ : ∃ ys, Hid (ys = xs ++ bs) := ⟨_, Lib.hid rfl⟩
  have ly : ys.length ≤ 4294967296 := by rw [hys.out]; simp; omega
  have hly : Hid (ys.length = (num 0).length + ((num t.size).length + t.size) + bs.length) := Lib.hid (by rw [hys.out, hxs.out]; simp; omega)
  have hyu : Hid (uint ys = (0, (num 0).length, 0)) := Lib.hid (by
    have := uint_num 0 (num t.size ++ (t.data.toList ++ bs)) (by decide)
    rw [hys.out, hxs.out]; simpa using this)
  have hyt : Hid (textOf t.size (ys.drop (num 0).length) = (t.data.toList, (num t.size).length + t.size, 0)) := Lib.hid (by
    have := text_back t.data.toList bs (by rw [size_list]; omega)
    rw [size_list] at this
    rw [hys.out, hxs.out, List.append_assoc, List.append_assoc, List.drop_left]
    simpa using this)
  have hPut := Lib.hid (show ∀ w, Calls Try.prog 11 #[.slice none 0 0, .int .i64 0] w (Gives (num 0) w) from fun w => (put_any (.slice none 0 0) [] 0 w (rd_nil _ _ _) (by simp) (by omega)).mono fun _ _ h => by simpa using h)
  go_enter Try.func6, Try.ntmps6
  go_wp2_with fail
  (with_reducible refine (hPut.out w).mono ?_)
  rintro e w1 ⟨v1, rfl, hown1, hb1⟩
  have s01 := hb1.size
  go_wp2_with fail
  (with_reducible refine (text_any v1 (num 0) t w1 (hown1.rd.mono (Nat.zero_le _) (Nat.le_refl _)) (by omega) (by omega)).mono ?_)
  rintro e w2 ⟨v2, rfl, hown2, hb2⟩
  rw [← hxs.out] at hown2
  have b02 := hb1.trans (hb2.mono s01)
  have hbx2 : RdA w2 0 w.heap.size B bs := hbx.keep fun p _ hp => b02.cell hp
  go_wp2_with (at_builtin; refine wpList_append_rd _ rfl (.tmp 24) (.tmp 25) rfl rfl hown2 rfl rfl hbx2 ?_ hb2.size ?_)
  case _ => omega
  intro v3 w3 hown3 hg3 _
  rw [← hys.out] at hown3
  have b03 := b02.grown hg3 b02.size (fun k hk => Nat.le_trans s01 (hown2.lt k hk).1)
  have R3 := Lib.hid (show Rd w3 0 w3.heap.size v3 ys from hown3.rd.mono (Nat.zero_le _) (Nat.le_refl _))
  clear hown3 hown2 hown1 hbx2 hg3 hb2 hb1 b02
  go_wp2_with fail
  refine (over_any v3 ys w3 R3.out (by omega)).mono ?_
  rintro e w4 ⟨g, D, d, rfl, hg, hrd, hrx, hb4⟩
  have hlt4 := hrd.lt
  have b04 := b03.trans (hb4.mono b03.size)
  have hm := uint_made g D d ys 0 w3.heap.size g w4 hrd hrx (Nat.le_of_lt hlt4) (.inl (Nat.le_refl _))
  rw [List.drop_zero, hyu.out, Nat.zero_add] at hm
  have hm2 : Calls Try.prog 23 #[.pointer (some ⟨g, 0, none⟩)] w4 (Reads (.int .i64 0) 0 (num 0).length g D d ys w4) := hm
  have HM := Lib.hid hm2
  clear hm hm2
  go_wp2_with fail
  (with_reducible refine HM.out.mono ?_)
  rintro e w5 hR5
  obtain rfl := hR5.ending
  have hgw : w.heap.size ≤ g := Nat.le_trans b03.size hg
  have b05 := b04.grown hR5.grown b04.size (by simp; omega)
  have hrx5 : RdA w5 w3.heap.size g D ys := hrx.keep fun q h1 h2 => World.cell?_of_block (hR5.grown.block q.block (by omega) (by simp; omega))
  have hlt5 := hR5.rdr.lt
  have ht := text_made g D d ys (num 0).length w3.heap.size g (t.size : Int) w5 hR5.rdr hrx5 (Nat.le_of_lt hlt5) (.inl (Nat.le_refl _))
  rw [Int.toNat_natCast, hyt.out] at ht
  simp only [] at ht
  rw [str_list] at ht
  have HT := Lib.hid ht
  clear ht hR5 hrd hrx hrx5
  go_wp2_with fail
  (with_reducible refine HT.out.mono ?_)
  rintro e w6 hR6
  obtain rfl := hR6.ending
  have b06 := b05.grown hR6.grown b05.size (by simp; omega)
  have hL := left_made g D d ys _ w6 hR6.rdr
  rw [show (ys.length : Int) - (((num 0).length + ((num t.size).length + t.size) : Nat) : Int) = (bs.length : Int) by have := hly.out; omega] at hL
  have HL := Lib.hid hL
  clear hL hR6
  go_wp2_with fail
  (with_reducible refine HL.out.mono ?_)
  rintro e w7 ⟨rfl, j, rfl⟩
  have b07 : Below w.heap.size w (w6.drewN j) := below_drewN b06 j
  have HF := Lib.hid (frame_any _ ps (w6.drewN j) ((hp0.below b07 (Nat.le_refl _)).mono (Nat.le_refl _) b07.size) (by omega))
  go_wp2_with fail
  (with_reducible refine HF.out.mono ?_)
  rintro e w8 (⟨hbig, rfl, hb8⟩ | ⟨hsm, v8, rfl, hown8, hb8⟩)
  · have b08 := b07.trans (hb8.mono b07.size)
    go_wp2
    go_ret
    exact ⟨rfl, b08⟩
  have b08 := b07.trans (hb8.mono b07.size)
  have lfr := frameOf_len ps
  have lnp := num_length ps.length
  obtain ⟨fr, hfr⟩ : ∃ fr, Hid (fr = frameOf ps) := ⟨_, Lib.hid rfl⟩
  rw [← hfr.out] at hown8 lfr
  have lfr2 : fr.length ≤ 65600 := by omega
  have LFR := Lib.hid lfr
  clear lfr
  obtain ⟨zs, hzs⟩ : ∃ zs, Hid (zs = fr ++ bs) := ⟨_, Lib.hid rfl⟩
  have lzs : zs.length ≤ 1099511627776 := by rw [hzs.out]; simp; omega
  have hun : Hid (unfr zs = ((num ps.length).length, ps.length, 0)) := Lib.hid (by rw [hzs.out, hfr.out]; exact unfr_frame ps bs (by omega))
  have hz1 : Hid ((zs.drop (num ps.length).length).take ps.length = ps) := Lib.hid (by
    rw [hzs.out, hfr.out]; unfold frameOf
    rw [List.append_assoc, List.append_assoc, List.drop_left]
    exact List.take_left)
  have hz2 : Hid (zs.drop ((num ps.length).length + ps.length + 4) = bs) := Lib.hid (by
    have : (num ps.length).length + ps.length + 4 = fr.length := by have := LFR.out; omega
    rw [this, hzs.out]; exact List.drop_left)
  go_wp2_with fail
  refine (clone_any v8 fr w8 (hown8.rd.mono (Nat.zero_le _) (Nat.le_refl _)) (by omega)).mono ?_
  rintro e w9 ⟨v9, rfl, hown9, hb9⟩
  have b09 := b08.trans (hb9.mono b08.size)
  have hbx9 : RdA w9 0 w.heap.size B bs := hbx.keep fun p _ hp => b09.cell hp
  go_wp2_with (at_builtin; refine wpList_append_rd _ rfl (.tmp 76) (.tmp 77) rfl rfl hown9 rfl rfl hbx9 ?_ hb9.size ?_)
  case _ => omega
  intro v10 w10 hown10 hg10 _
  rw [← hzs.out] at hown10
  have b10 := b09.grown hg10 b09.size (fun k hk => Nat.le_trans b08.size (hown9.lt k hk).1)
  have HU := Lib.hid (unframe_any v10 zs w10 (hown10.rd.mono (Nat.zero_le _) (Nat.le_refl _)) lzs)
  clear hown10 hown9 hown8 hg10 hbx9
  go_wp2_with fail
  (with_reducible refine HU.out.mono ?_)
  rintro e w11 (⟨hz, _, _⟩ | ⟨_, v11, v12, rfl, hown11, hown12, hb11⟩)
  · exact absurd (by rw [hun.out]) hz
  rw [hun.out] at hown11 hown12
  simp only [] at hown11 hown12
  rw [hz1.out] at hown11
  rw [hz2.out] at hown12
  have b11 := b10.trans (hb11.mono b10.size)
  have hpx11 := Lib.hid (hp0.below b11 (Nat.le_refl _))
  have hbx11 := Lib.hid (hb0.below b11 (Nat.le_refl _))
  go_wp2_with fail
  (with_reducible refine (equal_same (.slice P ps.length cp) v11 ps _ _ _ _ w11 hpx11.out hown11.rd (by omega)).mono ?_)
  rintro e y1 ⟨rfl, n1, rfl⟩
  go_wp2_with fail
  (with_reducible refine (equal_same v12 (.slice B bs.length cb) bs _ _ _ _ _ (hown12.rd.drewN _) (hbx11.out.drewN _) (by omega)).mono ?_)
  rintro e y2 ⟨rfl, n2, rfl⟩
  go_wp2
  go_ret
  exact ⟨rfl, below_drewN b11 _⟩

theorem back_walk (n : Int) (hn : n ≤ 9223372036854775807) (t : ByteArray) (vp vb : Value) (ps bs : List UInt8) (w : World) (hp : Rd w 0 w.heap.size vp ps) (hb : Rd w 0 w.heap.size vb bs) (lt : t.size ≤ 1073741824) (lp : ps.length ≤ 1073741824) (lb : bs.length ≤ 1073741824) :
    Calls Try.prog 6 #[.int .i64 n, .string t, vp, vb] w fun e w' => e = .returned (.bool true) ∧ Below w.heap.size w w' := by
  by_cases h0 : n < 0
  · exact back_neg n h0 t vp vb ps bs w hp hb lt lp lb
  · obtain ⟨m, rfl⟩ := Int.eq_ofNat_of_zero_le (by omega : 0 ≤ n)
    exact back_nat m (by omega) t vp vb ps bs w hp hb lt lp lb
end Go.Proofs.Ytnehchlfoidmdaa
