/- wait: pings that wait too long. -/
import Derived.Test.YthipdadhhelieaaPNext
namespace Go.Proofs.Ythipdadhhelieaa
open Go.RowKit Go.Sort Go.BigFrame

/-- What becomes of a ping: the table, and what is open still. -/
def waitStep (s : TabA × List PingA) (p : PingA) : TabA × List PingA :=
  if decide (s.1.now - p.2.2.1 < 50) then (s.1, s.2 ++ [p])
  else if p.2.2.2 = false then (s.1, s.2 ++ [(p.1, p.2.1, s.1.now, true)])
  else if ((s.1.nd p.1.toNat).1.2.2 == 1) then (s.1.setNd p.1.toNat ((p.1, (s.1.nd p.1.toNat).1.2.1, 2), s.1.now), s.2)
  else s
def TabA.wait (t : TabA) (ps : List PingA) : TabA × List PingA := ps.foldl waitStep (t, [])
theorem wait_snoc (t : TabA) (ps : List PingA) (p : PingA) : t.wait (ps ++ [p]) = waitStep (t.wait ps) p := by unfold TabA.wait; rw [List.foldl_append]; rfl
theorem waitStep_now (s : TabA × List PingA) (p : PingA) : (waitStep s p).1.now = s.1.now := by
  unfold waitStep
  repeat' split
  all_goals first | rfl | exact setNd_now _ _ _
theorem wait_now (t : TabA) (ps : List PingA) : (t.wait ps).1.now = t.now := by
  have : ∀ (l : List PingA) (s : TabA × List PingA), (l.foldl waitStep s).1.now = s.1.now := by
    intro l
    induction l with
    | nil => intro s; rfl
    | cons p l ih => intro s; rw [List.foldl_cons, ih, waitStep_now]
  exact this ps _
theorem waitStep_len (s : TabA × List PingA) (p : PingA) : (waitStep s p).2.length ≤ s.2.length + 1 := by
  unfold waitStep
  repeat' split
  all_goals simp
theorem wait_len (t : TabA) (ps : List PingA) : (t.wait ps).2.length ≤ ps.length := by
  have : ∀ (l : List PingA) (s : TabA × List PingA), (l.foldl waitStep s).2.length ≤ s.2.length + l.length := by
    intro l
    induction l with
    | nil => intro s; exact Nat.le_refl _
    | cons p l ih =>
      intro s
      rw [List.foldl_cons]
      have h1 := ih (waitStep s p)
      have h2 := waitStep_len s p
      simp only [List.length_cons]
      omega
  have h := this ps (t, [])
  unfold TabA.wait
  simpa using h
/-- Open pings are of nodes, and began between nought and now. -/
def Fine (t : TabA) (ps : List PingA) : Prop := ∀ p ∈ ps, 0 ≤ p.1 ∧ p.1 < 8 ∧ 0 ≤ p.2.2.1 ∧ p.2.2.1 ≤ t.now
theorem keepRow {w w' : World} {b1 b2 : Nat} {T1 T2 : TypeId} {s1 s2 : Nat} {v1 v2 : Value} {n1 n2 : Nat} {x1 x2 : List Value} (hne : T1 ≠ T2) (h1 : w.ownsRow b1 T1 s1 v1 n1 x1) (h2 : w.ownsRow b2 T2 s2 v2 n2 x2) (hg : w.grownBy w' v2.ownBlock) : w'.ownsRow b1 T1 s1 v1 n1 x1 :=
  World.ownsRow.kept h1 hg (rows_apart hne h1 h2)
theorem tab_grown {w w' : World} {g B : Nat} {t : TabA} {T : TypeId} {s : Nat} {v : Value} {n : Nat} {xs : List Value} (h : TabAt w g t) (hg : g < B) (hr : w.ownsRow B T s v n xs) (hw : w.grownBy w' v.ownBlock) : TabAt w' g t :=
  h.keep (hw.block g h.lt (fun e => by have := (World.ownsRow.lt hr g e.symm).1; omega))
theorem neMP : 56 ≠ 38 := by decide
theorem neMG : 56 ≠ 67 := by decide
theorem nePG : 38 ≠ 67 := by decide
theorem hz4 : (Value.agg #[.int .i64 0, .int .i64 0, .int .i64 0, .bool false]).cells.size = 4 ∧ 0 < 4 ∧ 32 ≤ 65536 := ⟨rfl, by decide, by decide⟩
theorem hz17 : (Value.agg #[.int .i64 0, .int .i64 0, .int .i64 0, .int .i64 0, .string .empty, .slice none 0 0, .slice none 0 0, .slice none 0 0, .int .i64 0, .int .i64 0, .int .i64 0, .int .i64 0, .int .i64 0, .int .i64 0, .slice none 0 0, .slice none 0 0, .slice none 0 0]).cells.size = 17 ∧ 0 < 17 ∧ 240 ≤ 65536 := ⟨rfl, by decide, by decide⟩
theorem pcells1_one (p : PingA) : (pcells1 p).length = 1 * 4 ∧ ∀ u ∈ pcells1 p, u.oneCell' = true := ⟨rfl, fun u hu => pcells_one [p] u (by simpa [pcells] using hu)⟩
theorem box_ping (w : World) (p : PingA) : ∀ j u, (pcells1 p)[j]? = some u → (w.alloc (.cells #[.int .i64 p.1, .int .i64 p.2.1, .int .i64 p.2.2.1, .bool p.2.2.2] 67)).cell? ((⟨w.heap.size, 0, none⟩ : Addr).add j) = some u := by
  intro j u hj
  rw [Addr.add_mid, box_cell]
  simpa [pcells1] using hj

/-- What holds ahead of each ping: the rows of messages, rumours and pings, and the table. -/
structure Waits (g B : Nat) (w0 wr : World) (T : TabA) (stl : List PingA) (v4 v5 v6 : Value) (n4 n5 n6 : Nat) : Prop where
  m : ∃ xs, wr.ownsRow B 56 17 v4 n4 xs ∧ ∀ u ∈ xs, u.oneCell' = true
  d : ∃ ds : List PeerA, wr.ownsRow B 38 3 v5 n5 (dcells ds) ∧ ds.length = n5
  s : wr.ownsRow B 67 4 v6 n6 (pcells stl)
  n : n6 = stl.length
  tab : TabAt wr g T
  fr : Turns g B w0 wr
theorem Waits.to {g B : Nat} {w0 wr wr' : World} {T : TabA} {stl : List PingA} {v4 v5 v6 : Value} {n4 n5 n6 : Nat} (h : Waits g B w0 wr T stl v4 v5 v6 n4 n5 n6) (hb : Below wr.heap.size wr wr') (hB : B ≤ wr.heap.size) : Waits g B w0 wr' T stl v4 v5 v6 n4 n5 n6 := by
  obtain ⟨⟨xs, h1, h2⟩, ⟨ds, h3, h4⟩, h5, h6, h7, h8⟩ := h
  exact ⟨⟨xs, row_below h1 hb, h2⟩, ⟨ds, row_below h3 hb, h4⟩, row_below h5 hb, h6, h7.below hb h7.lt, h8.trans ((Turns.of hb).mono hB)⟩
/-- Still waited for. -/
theorem Waits.still {g B : Nat} {w0 wr w' : World} {T : TabA} {stl : List PingA} {v4 v5 v6 v' : Value} {n4 n5 n6 : Nat} (h : Waits g B w0 wr T stl v4 v5 v6 n4 n5 n6) (hg : g < B) (hB : B ≤ w0.heap.size) (p : PingA) (ho : w'.ownsRow B 67 4 v' (n6 + 1) (pcells stl ++ pcells1 p)) (hgr : wr.grownBy w' v6.ownBlock) : Waits g B w0 w' T (stl ++ [p]) v4 v5 v' n4 n5 (n6 + 1) := by
  obtain ⟨⟨xs, h1, h2⟩, ⟨ds, h3, h4⟩, h5, h6, h7, h8⟩ := h
  exact ⟨⟨xs, keepRow neMG h1 h5 hgr, h2⟩, ⟨ds, keepRow nePG h3 h5 hgr, h4⟩, by rw [pcells_snoc]; exact ho, by rw [h6]; simp, tab_grown h7 hg h5 hgr, turns_grown h8 hB h5 hgr⟩
/-- More messages. -/
theorem Waits.asked {g B bx : Nat} {w0 wr w' : World} {T : TabA} {stl : List PingA} {v4 v5 v6 v' u : Value} {n4 n5 n6 m : Nat} {xs ys : List Value} (h : Waits g B w0 wr T stl v4 v5 v6 n4 n5 n6) (hg : g < B) (hB : B ≤ w0.heap.size) (hx : wr.ownsRow B 56 17 v4 n4 xs) (hx1 : ∀ u ∈ xs, u.oneCell' = true) (hy1 : ∀ u ∈ ys, u.oneCell' = true) (_ : wr.ownsRow bx 56 17 u m ys) (ho : w'.ownsRow B 56 17 v' (n4 + m) (xs ++ ys)) (hgr : wr.grownBy w' v4.ownBlock) : Waits g B w0 w' T stl v' v5 v6 (n4 + m) n5 n6 := by
  obtain ⟨_, ⟨ds, h3, h4⟩, h5, h6, h7, h8⟩ := h
  exact ⟨⟨_, ho, fun u hu => by rcases List.mem_append.1 hu with h | h; exact hx1 u h; exact hy1 u h⟩, ⟨ds, keepRow neMP.symm h3 hx hgr, h4⟩, keepRow neMG.symm h5 hx hgr, h6, tab_grown h7 hg hx hgr, turns_grown h8 hB hx hgr⟩
/-- A table that turned. -/
theorem Waits.turn {g B : Nat} {w0 wr w' : World} {T T' : TabA} {stl : List PingA} {v4 v5 v6 : Value} {n4 n5 n6 : Nat} (h : Waits g B w0 wr T stl v4 v5 v6 n4 n5 n6) (hg : g < B) (hB : B ≤ w0.heap.size) (ht : TabAt w' g T') (hw : Turns g wr.heap.size wr w') : Waits g B w0 w' T' stl v4 v5 v6 n4 n5 n6 := by
  obtain ⟨⟨xs, h1, h2⟩, ⟨ds, h3, h4⟩, h5, h6, h7, h8⟩ := h
  exact ⟨⟨xs, row_turn h1 hw hg, h2⟩, ⟨ds, row_turn h3 hw hg, h4⟩, row_turn h5 hw hg, h6, ht, h8.trans (hw.mono (Nat.le_trans hB h8.size))⟩
/-- One more rumour. -/
theorem Waits.told {g B : Nat} {w0 wr w' : World} {T : TabA} {stl : List PingA} {v4 v5 v6 v' : Value} {n4 n5 n6 : Nat} {ds : List PeerA} {d : PeerA} (h : Waits g B w0 wr T stl v4 v5 v6 n4 n5 n6) (hg : g < B) (hB : B ≤ w0.heap.size) (hd : wr.ownsRow B 38 3 v5 n5 (dcells ds)) (hn : ds.length = n5) (ho : w'.ownsRow B 38 3 v' (n5 + 1) (dcells ds ++ dcells [d])) (hgr : wr.grownBy w' v5.ownBlock) : Waits g B w0 w' T stl v4 v' v6 n4 (n5 + 1) n6 := by
  obtain ⟨⟨xs, h1, h2⟩, _, h5, h6, h7, h8⟩ := h
  exact ⟨⟨xs, keepRow neMP h1 hd hgr, h2⟩, ⟨ds ++ [d], by rw [dcells_append]; exact ho, by simp [hn]⟩, keepRow nePG.symm h5 hd hgr, h6, tab_grown h7 hg hd hgr, turns_grown h8 hB hd hgr⟩
end Go.Proofs.Ythipdadhhelieaa
