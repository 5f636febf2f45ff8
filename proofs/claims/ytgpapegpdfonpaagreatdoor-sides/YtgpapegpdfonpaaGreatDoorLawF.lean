/-
  The statement's steps: World.points.
-/
import Derived.Test.YtgpapegpdfonpaaGreatDoorLawE
namespace Go.Proofs.YtgpapegpdfonpaaGreatDoor
set_option linter.unusedVariables false
set_option linter.unusedSimpArgs false
open Go.RowKit
attribute [local go_sem ↓] Go.wp_at_zero Go.wp_at_succ

/-- a step, as a value -/
abbrev opVal (kd n wh ax ay bx by' cx cy dx dy : Int) (la : Option Addr) (ln lc : Nat) (ta : Option Addr) (tn tc : Nat) (s : ByteArray) : Value :=
  .agg #[.int .i64 kd, .int .i64 n, .int .i64 wh, .int .i64 ax, .int .i64 ay, .int .i64 bx, .int .i64 by', .int .i64 cx, .int .i64 cy, .int .i64 dx, .int .i64 dy, .slice la ln lc, .slice ta tn tc, .string s]

/-- the book, somehow -/
def Books (w : World) (WB : Nat) (N : Nat) : Prop := ∃ vI vM ls ms nk, Book w WB vI vM ls ms nk ∧ ls.length = ms.length ∧ ls.length ≤ 4 * N ∧ nk ≤ N
theorem Books.more {w : World} {WB N M : Nat} (h : Books w WB N) (hm : N ≤ M) : Books w WB M := by
  obtain ⟨vI, vM, ls, ms, nk, h1, h2, h3, h4⟩ := h
  exact ⟨vI, vM, ls, ms, nk, h1, h2, by omega, by omega⟩
theorem Books.below {w w' : World} {WB N : Nat} (h : Books w WB N) (hb : Below w.heap.size w w') : Books w' WB N := by
  obtain ⟨vI, vM, ls, ms, nk, h1, h2⟩ := h
  exact ⟨vI, vM, ls, ms, nk, h1.below hb, h2⟩
theorem Books.lt {w : World} {WB N : Nat} (h : Books w WB N) : WB < w.heap.size := by
  obtain ⟨vI, vM, ls, ms, nk, h1, h2⟩ := h
  exact h1.lt

theorem box_at {w w1 : World} {cs : Array Value} {T : TypeId} (hb : Below (w.alloc (.cells cs T)).heap.size (w.alloc (.cells cs T)) w1) (j : Nat) : w1.cell? ⟨w.heap.size, j, none⟩ = cs[j]? := by
  rw [hb.cell (p := ⟨w.heap.size, j, none⟩) (by simp)]
  have e := heap_alloc_new w (.cells cs T)
  simp only [World.cell?, e]
  simp
theorem below_two {w w1 w2 : World} {o : Obj} (hb : Below (w.alloc o).heap.size (w.alloc o) w1) (hc : Below w1.heap.size w1 w2) : Below w.heap.size w w2 := by
  have h1 := (below1 w o).trans (hb.mono (by simp))
  exact h1.trans (hc.mono h1.size)

set_option maxHeartbeats 2000000 in
set_option maxRecDepth 100000 in
theorem points_orient (WB : Nat) (n wh ax ay bx by' cx cy dx dy : Int) (la : Option Addr) (ln lc : Nat) (ta : Option Addr) (tn tc : Nat) (s : ByteArray) (w : World) :
    Calls Tryz.prog 19 #[.pointer (some ⟨WB, 0, none⟩), opVal 1 n wh ax ay bx by' cx cy dx dy la ln lc ta tn tc s] w fun e w' => e = .returned (.bool true) ∧ Below w.heap.size w w' := by
  have FP := fun W => orient_any ax ay bx by' cx cy W
  have FR := fun W => rorient_any ax ay bx by' cx cy W
  generalize (if (farB ax ay || farB bx by' || farB cx cy) = true then 0 else sg (sideN ax ay bx by' cx cy)) = r at *
  generalize (if (farB ax ay || farB bx by' || farB cx cy) = true then (1 : Int) else 0) = f at *
  go_enter Tryz.func19, Tryz.ntmps19
  go_wp2_with (first
    | (go_at_call 8; refine (FP _).mono ?_; rintro e w1 ⟨rfl, hb1⟩
       have c3 : w1.cell? ⟨w.heap.size, 3, none⟩ = some (.int .i64 ax) := box_at hb1 3
       have c4 : w1.cell? ⟨w.heap.size, 4, none⟩ = some (.int .i64 ay) := box_at hb1 4
       have c5 : w1.cell? ⟨w.heap.size, 5, none⟩ = some (.int .i64 bx) := box_at hb1 5
       have c6 : w1.cell? ⟨w.heap.size, 6, none⟩ = some (.int .i64 by') := box_at hb1 6
       have c7 : w1.cell? ⟨w.heap.size, 7, none⟩ = some (.int .i64 cx) := box_at hb1 7
       have c8 : w1.cell? ⟨w.heap.size, 8, none⟩ = some (.int .i64 cy) := box_at hb1 8)
    | (go_at_call 38; refine (FR _).mono ?_; rintro e w2 ⟨rfl, hb2⟩)
    | (go_at_call 39; refine (num_any _ _).mono ?_; rintro e w3 ⟨rfl, rfl⟩))
  go_ret
  exact ⟨rfl, below_two hb1 hb2⟩

set_option maxHeartbeats 2000000 in
set_option maxRecDepth 100000 in
theorem points_circle (WB : Nat) (n wh ax ay bx by' cx cy dx dy : Int) (la : Option Addr) (ln lc : Nat) (ta : Option Addr) (tn tc : Nat) (s : ByteArray) (w : World) :
    Calls Tryz.prog 19 #[.pointer (some ⟨WB, 0, none⟩), opVal 2 n wh ax ay bx by' cx cy dx dy la ln lc ta tn tc s] w fun e w' => e = .returned (.bool true) ∧ Below w.heap.size w w' := by
  have FP := fun W => inCircle_any ax ay bx by' cx cy dx dy W
  have FR := fun W => rinCircle_any ax ay bx by' cx cy dx dy W
  generalize (if (farB ax ay || farB bx by' || farB cx cy || farB dx dy) = true then 0 else sg (sideN ax ay bx by' cx cy) * sg (circN ax ay bx by' cx cy dx dy)) = r at *
  generalize (if (farB ax ay || farB bx by' || farB cx cy || farB dx dy) = true then (1 : Int) else 0) = f at *
  go_enter Tryz.func19, Tryz.ntmps19
  go_wp2_with (first
    | (go_at_call 40; refine (FP _).mono ?_; rintro e w1 ⟨rfl, hb1⟩
       have c3 : w1.cell? ⟨w.heap.size, 3, none⟩ = some (.int .i64 ax) := box_at hb1 3
       have c4 : w1.cell? ⟨w.heap.size, 4, none⟩ = some (.int .i64 ay) := box_at hb1 4
       have c5 : w1.cell? ⟨w.heap.size, 5, none⟩ = some (.int .i64 bx) := box_at hb1 5
       have c6 : w1.cell? ⟨w.heap.size, 6, none⟩ = some (.int .i64 by') := box_at hb1 6
       have c7 : w1.cell? ⟨w.heap.size, 7, none⟩ = some (.int .i64 cx) := box_at hb1 7
       have c8 : w1.cell? ⟨w.heap.size, 8, none⟩ = some (.int .i64 cy) := box_at hb1 8
       have c9 : w1.cell? ⟨w.heap.size, 9, none⟩ = some (.int .i64 dx) := box_at hb1 9
       have c10 : w1.cell? ⟨w.heap.size, 10, none⟩ = some (.int .i64 dy) := box_at hb1 10)
    | (go_at_call 41; refine (FR _).mono ?_; rintro e w2 ⟨rfl, hb2⟩)
    | (go_at_call 39; refine (num_any _ _).mono ?_; rintro e w3 ⟨rfl, rfl⟩))
  go_ret
  exact ⟨rfl, below_two hb1 hb2⟩

/-- raw points that lie below the book -/
def LowAt (WB : Nat) (w : World) (a : Option Addr) (l : List Pt) : Prop := l = [] ∨ ∃ b off, a = some ⟨b, off, none⟩ ∧ b < WB ∧ PtsAt w b off l
theorem LowAt.raw {WB : Nat} {w : World} {a : Option Addr} {l : List Pt} (h : LowAt WB w a l) (hs : WB ≤ w.heap.size) : RawAt w a l := by
  rcases h with h | ⟨b, off, e, hb, hp⟩
  · exact .inl h
  · exact .inr ⟨b, off, e, by omega, hp⟩
theorem LowAt.below {WB : Nat} {w w' : World} {a : Option Addr} {l : List Pt} (h : LowAt WB w a l) (hb : Below WB w w') : LowAt WB w' a l := by
  rcases h with h | ⟨b, off, e, hlt, hp⟩
  · exact .inl h
  · exact .inr ⟨b, off, e, hlt, hp.below hb hlt⟩
theorem RowP.raw {w : World} {g : Nat} {l : List Pt} (h : RowP w g (l ++ marksTo 8)) : RawAt w (some ⟨g, 0, none⟩) l := by
  refine .inr ⟨g, 0, rfl, h.lt, fun j hj => ?_⟩
  have := h.pts j (by simp; omega)
  rwa [lent_low hj] at this

/-- a list that came out behind the book's world shares nothing with it -/
theorem shares_new {w w' : World} {WB nk base n : Nat} {vI vM v : Value} {ls : List Value} {ms : List Int} {xs : List Value} (h : Book w WB vI vM ls ms nk) (hv : w'.ownsRow base 3 1 v n xs) (hb : w.heap.size ≤ base) (m : Int) : Shares vM ls ms v 0 m := by
  intro g hg
  have hge := (own_typ hv hg).1
  refine ⟨fun e => ?_, fun e he h1 h2 => ?_⟩
  · obtain ⟨_, cur, hh⟩ := own_typ h.ownM e.symm
    have : g < w.heap.size := lt_some hh
    omega
  · obtain ⟨a, ne, c, hv, _, hE⟩ := h.ent e he
    rw [hv] at h1 h2
    rcases hE with rfl | ⟨g', cur, rfl, _, _, hh, _⟩
    · simp [lenV] at h2
    · cases h1
      have h8 : g' < w.heap.size := lt_some hh
      have h9 : base ≤ g' := hge
      omega

set_option maxHeartbeats 2000000 in
set_option maxRecDepth 100000 in
theorem points_hull (WB N : Nat) (n wh ax ay bx by' cx cy dx dy : Int) (la : Option Addr) (l : List Pt) (lc : Nat) (ta : Option Addr) (tn tc : Nat) (s : ByteArray) (w : World) (h : Books w WB N) (hN : N ≤ 925904528800) (hr : LowAt WB w la l) (hl : l.length ≤ 8796093021952) :
    Calls Tryz.prog 19 #[.pointer (some ⟨WB, 0, none⟩), opVal 3 n wh ax ay bx by' cx cy dx dy la l.length lc ta tn tc s] w fun e w' => e = .returned (.bool true) ∧ Books w' WB (N + 1) ∧ Below WB w w' := by
  obtain ⟨vI, vM, ls, ms, nk, hB, hlen, hl4, hnk⟩ := h
  have hWB := hB.lt
  have HB : Hid (Book w WB vI vM ls ms nk ∧ ls.length = ms.length ∧ ls.length ≤ 4 * N ∧ nk ≤ N) := ⟨hB, hlen, hl4, hnk⟩
  have HR : Hid (LowAt WB w la l) := hr
  have HL : Hid (l.length ≤ 8796093021952) := hl
  have l20 : (l.length : Int) ≤ 8796093021952 := by omega
  clear hB hlen hl4 hnk hr hl
  go_enter Tryz.func19, Tryz.ntmps19
  go_upto_region 10 with fail
  have hb0 : Below w.heap.size w (w.alloc (.cells #[.int .i64 3, .int .i64 n, .int .i64 wh, .int .i64 ax, .int .i64 ay, .int .i64 bx, .int .i64 by', .int .i64 cx, .int .i64 cy, .int .i64 dx, .int .i64 dy, .slice la l.length lc, .slice ta tn tc, .string s] 44)) := below1 _ _
  have hbox : ∃ cs, (w.alloc (.cells #[.int .i64 3, .int .i64 n, .int .i64 wh, .int .i64 ax, .int .i64 ay, .int .i64 bx, .int .i64 by', .int .i64 cx, .int .i64 cy, .int .i64 dx, .int .i64 dy, .slice la l.length lc, .slice ta tn tc, .string s] 44)).heap[w.heap.size]? = some (.cells cs 44 (0, 0)) ∧ cs[11]? = some (.slice la l.length lc) := ⟨_, heap_alloc_new _ _, rfl⟩
  generalize hW0 : w.alloc (.cells #[.int .i64 3, .int .i64 n, .int .i64 wh, .int .i64 ax, .int .i64 ay, .int .i64 bx, .int .i64 by', .int .i64 cx, .int .i64 cy, .int .i64 dx, .int .i64 dy, .slice la l.length lc, .slice ta tn tc, .string s] 44) = W0 at *
  clear hW0
  obtain ⟨cs, hbox, hcs⟩ := hbox
  have key : ∀ {W : World}, W.heap[w.heap.size]? = some (.cells cs 44 (0, 0)) → W.cell? ⟨w.heap.size, 11, none⟩ = some (.slice la l.length lc) := fun {W} hW => by
    simp only [World.cell?, hW]
    simpa using hcs
  have KEY : Hid (∀ {W : World}, W.heap[w.heap.size]? = some (.cells cs 44 (0, 0)) → W.cell? ⟨w.heap.size, 11, none⟩ = some (.slice la l.length lc)) := key
  clear key hcs
  have hlow0 := HR.out.below (hb0.mono (Nat.le_of_lt hWB))
  have hs0 : w.heap.size < W0.heap.size := lt_some hbox
  have q0 := KEY.out hbox
  go_upto_region 11 with (go_at_call 42; refine (lend_any la lc l W0 (hlow0.raw (by omega)) HL.out).mono ?_; rintro e w1 ⟨g, rfl, hg, hrow1, hb1⟩)
  have hbox1 := (hb1.block _ hs0).trans hbox
  have q1 := KEY.out hbox1
  have hb01 := hb0.trans (hb1.mono hb0.size)
  have hs1 : w.heap.size < w1.heap.size := lt_some hbox1
  clear q0 hb1 hbox hb0
  go_upto_region 12 with (go_at_call 43; refine (hullp_any (some ⟨g, 0, none⟩) (l.length + 8) l w1 hrow1.raw).mono ?_; rintro e w2 ⟨v, c, rfl, hA, hown2, hb2⟩)
  have hbox2 := (hb2.block _ hs1).trans hbox1
  have q2 := KEY.out hbox2
  have hrow2 := hrow1.keep (hb2.block g hrow1.lt)
  have hb02 := hb01.trans (hb2.mono hb01.size)
  have hs2 : w.heap.size < w2.heap.size := lt_some hbox2
  have hlow2 := HR.out.below (hb02.mono (Nat.le_of_lt hWB))
  have hown2' := own_mono hown2 (show w.heap.size ≤ w1.heap.size by omega)
  obtain ⟨va, vc, rfl⟩ := own_anyW hown2
  clear q1 hb2 hbox1 hrow1 hb01 hown2 hlow0
  go_upto_region 13 with (go_at_call 44; refine (hullr_any la lc l c w2 (hlow2.raw (by omega)) hA).mono ?_; rintro e w3 ⟨v3, rfl, hown3, hb3⟩)
  have hbox3 := (hb3.block _ hs2).trans hbox2
  have hrow3 := hrow2.keep (hb3.block g hrow2.lt)
  have hb03 := hb02.trans (hb3.mono hb02.size)
  have hs3 : w.heap.size < w3.heap.size := lt_some hbox3
  have hown23 := own_below hown2' hb3
  have hia := IntsAt.own hown23
  have hib := IntsAt.own hown3
  obtain ⟨va3, vc3, rfl⟩ := own_anyW hown3
  clear q2 hb3 hbox2 hrow2 hb02 hown2' hown3 hlow2
  go_upto_region 14 with (go_at_call 45; refine (sameInts_any _ _ c w3 hia hib hA.le).mono ?_; rintro e w4 ⟨rfl, hb4⟩)
  have hbox4 := (hb4.block _ hs3).trans hbox3
  have hrow4 := hrow3.keep (hb4.block g hrow3.lt)
  have hb04 := hb03.trans (hb4.mono hb03.size)
  have hs4 : w.heap.size < w4.heap.size := lt_some hbox4
  have hown4 := own_below hown23 hb4
  have hB4 := HB.out.1.below hb04
  have hsh : ∀ m, Shares vM ls ms (.slice va c.length vc) 0 m := fun m => shares_new HB.out.1 hown23 (Nat.le_refl _) m
  have hown4' := own_mono hown4 (show WB + 1 ≤ w.heap.size by omega)
  have hcb := hA.le
  have HB2 := HB.out.2
  have hIN := ints_any WB vI vM ls ms nk _ c.length _ w4 hB4 HB2.1 (by omega) (by omega) hown4' hcb hsh
  have HIN : Hid (Calls Tryz.prog 46 #[.pointer (some ⟨WB, 1, none⟩), .slice va c.length vc] w4 fun e w' => e = .returned (.tuple #[]) ∧ ∃ vI' vM' ls' ms', Book w' WB vI' vM' ls' ms' (nk + 1) ∧ ls'.length = ms'.length ∧ ls'.length = ls.length + 4 ∧ Kept WB w4 w') := hIN
  clear hb4 hbox3 hrow3 hb03 hown23 hown4 hB4 hsh hown4' HB2 hia hib hIN
  go_upto_region 15 with (go_at_call 46; refine HIN.out.mono ?_; rintro e w5 ⟨rfl, vI5, vM5, ls5, ms5, hB5, hlen5, hll5, hK5⟩)
  have hbox5 := (hK5.other _ _ _ hbox4 (by decide) (by decide) (by decide)).trans hbox4
  have q5 := KEY.out hbox5
  have hrow5 := hrow4.keep (hK5.other _ _ _ hrow4 (by decide) (by decide) (by decide))
  have hb05 := (hb04.mono (Nat.le_of_lt hWB)).trans hK5.below
  have hlow5 := HR.out.below hb05
  have hs5 : w.heap.size < w5.heap.size := lt_some hbox5
  have HB5 : Hid (Book w5 WB vI5 vM5 ls5 ms5 (nk + 1) ∧ ls5.length = ms5.length ∧ ls5.length = ls.length + 4) := ⟨hB5, hlen5, hll5⟩
  have hne : ∀ b off, la = some ⟨b, off, none⟩ → l ≠ [] → b ≠ g := fun b off e h0 => by
    rcases hlow5 with h | ⟨b', off', e', hlt, _⟩
    · exact absurd h h0
    · rw [e] at e'; cases e'; omega
  have HRT := returned_any g (l.length + 8) la lc l w5 (hlow5.raw (by omega)) hrow5 hne HL.out
  clear hB5 hlen5 hll5 hK5 hbox4 hbox5 hrow4 hb04 hlow5 hne
  go_upto_region 16 with (go_at_call 47; refine HRT.mono ?_; rintro e w6 ⟨rfl, hg6⟩)
  have hR : Books w6 WB (N + 1) ∧ Below WB w w6 := by
    obtain ⟨h1, h2, h3⟩ := HB5.out
    have HB2 := HB.out.2
    exact ⟨⟨_, _, _, _, _, h1.grown hrow5 hg6, h2, by omega, by omega⟩, hb05.grown hg6 (by omega) fun k hk => by cases hk; omega⟩
  have HRR : Hid (Books w6 WB (N + 1) ∧ Below WB w w6) := hR
  clear hR HRT HB5 hrow5 hg6 hb05 q5
  go_wp2_with (go_at_call 39; refine (num_any _ _).mono ?_; rintro e w7 ⟨rfl, rfl⟩)
  go_ret
  exact ⟨rfl, HRR.out⟩

end Go.Proofs.YtgpapegpdfonpaaGreatDoor
