/-
  The statement's steps, by the whole book: World.points, World.joins.
-/
import Derived.Test.YtgpapegpdfonpaaGreatDoorJoinsA
namespace Go.Proofs.YtgpapegpdfonpaaGreatDoor
set_option linter.unusedVariables false
set_option linter.unusedSimpArgs false
open Go.RowKit
attribute [local go_sem ↓] Go.wp_at_zero Go.wp_at_succ

/-- raw points in a block that nobody owns -/
def ForAt (tag : Nat → Nat) (w : World) (a : Option Addr) (l : List Pt) : Prop := l = [] ∨ ∃ b off, a = some ⟨b, off, none⟩ ∧ b < w.heap.size ∧ tag b = 0 ∧ PtsAt w b off l
theorem ForAt.raw {tag : Nat → Nat} {w : World} {a : Option Addr} {l : List Pt} (h : ForAt tag w a l) : RawAt w a l := by
  rcases h with h | ⟨b, off, e, hb, _, hp⟩
  · exact .inl h
  · exact .inr ⟨b, off, e, hb, hp⟩
theorem ForAt.below {tag : Nat → Nat} {w w' : World} {a : Option Addr} {l : List Pt} (h : ForAt tag w a l) (hb : Below w.heap.size w w') : ForAt tag w' a l := by
  rcases h with h | ⟨b, off, e, hlt, ht, hp⟩
  · exact .inl h
  · exact .inr ⟨b, off, e, Nat.lt_of_lt_of_le hlt hb.size, ht, hp.below hb hlt⟩
theorem ForAt.chg {tag : Nat → Nat} {w w' : World} {WB : Nat} {a : Option Addr} {l : List Pt} (h : ForAt tag w a l) (hc : Chg (BkF WB tag) w w') (hW : tag WB = 4) : ForAt tag w' a l := by
  rcases h with h | ⟨b, off, e, hlt, ht, hp⟩
  · exact .inl h
  · have hn : ¬ BkF WB tag b := fun h => by
      rcases h with h | ⟨h, _⟩
      · subst h; omega
      · exact h ht
    exact .inr ⟨b, off, e, Nat.lt_of_lt_of_le hlt hc.size, ht, fun j hj => ⟨(hc.cell hlt hn).trans (hp j hj).1, (hc.cell hlt hn).trans (hp j hj).2⟩⟩
theorem new_row {w : World} {base s n : Nat} {e : TypeId} {v : Value} {xs : List Value} (h : w.ownsRow base e s v n xs) : ∀ g, v.ownBlock = some g → base ≤ g := fun g hg => (h.lt g hg).1
theorem other_block {w : World} {base s n k : Nat} {e t : TypeId} {v : Value} {xs : List Value} {cs : Array Value} (h : w.ownsRow base e s v n xs) (hk : w.heap[k]? = some (.cells cs t (0, 0))) (hne : t ≠ e) : some k ≠ v.ownBlock := fun e' => by
  obtain ⟨cur, hc⟩ := ownS_typ h e'.symm
  exact typ_ne hk hc hne rfl

set_option maxHeartbeats 2000000 in
set_option maxRecDepth 100000 in
theorem bpoints_hull (WB N : Nat) (v0 : Value) (tag : Nat → Nat) (n wh ax ay bx by' cx cy dx dy : Int) (la : Option Addr) (l : List Pt) (lc : Nat) (ta : Option Addr) (tn tc : Nat) (s : ByteArray) (w : World) (h : Bks w WB v0 tag N) (hN : N ≤ 925904528800) (hr : ForAt tag w la l) (hl : l.length ≤ 8796093021952) :
    Calls Tryz.prog 19 #[.pointer (some ⟨WB, 0, none⟩), opVal 3 n wh ax ay bx by' cx cy dx dy la l.length lc ta tn tc s] w fun e w' => e = .returned (.bool true) ∧ StepOk WB v0 N tag w w' := by
  obtain ⟨sh, nk, hB, hlen, hnk⟩ := h
  have hWB := hB.ltW
  have HB : Hid (Bk w WB v0 tag sh nk ∧ (∀ j, j < 3 → (sh j).ls.length = (sh j).ms.length ∧ (sh j).ls.length ≤ 4 * N) ∧ nk ≤ 2 * N) := ⟨hB, hlen, hnk⟩
  have HR : Hid (ForAt tag w la l) := hr
  have HL : Hid (l.length ≤ 8796093021952) := hl
  have l20 : (l.length : Int) ≤ 8796093021952 := by omega
  clear hB hlen hnk hr hl
  go_enter Tryz.func19, Tryz.ntmps19
  go_upto_region 10 with fail
  have hb0 : Below w.heap.size w (w.alloc (.cells #[.int .i64 3, .int .i64 n, .int .i64 wh, .int .i64 ax, .int .i64 ay, .int .i64 bx, .int .i64 by', .int .i64 cx, .int .i64 cy, .int .i64 dx, .int .i64 dy, .slice la l.length lc, .slice ta tn tc, .string s] 44)) := below1 _ _
  have hbox : ∃ cs, (w.alloc (.cells #[.int .i64 3, .int .i64 n, .int .i64 wh, .int .i64 ax, .int .i64 ay, .int .i64 bx, .int .i64 by', .int .i64 cx, .int .i64 cy, .int .i64 dx, .int .i64 dy, .slice la l.length lc, .slice ta tn tc, .string s] 44)).heap[w.heap.size]? = some (.cells cs 44 (0, 0)) ∧ cs[11]? = some (.slice la l.length lc) := ⟨_, heap_alloc_new _ _, rfl⟩
  generalize hW0 : w.alloc (.cells #[.int .i64 3, .int .i64 n, .int .i64 wh, .int .i64 ax, .int .i64 ay, .int .i64 bx, .int .i64 by', .int .i64 cx, .int .i64 cy, .int .i64 dx, .int .i64 dy, .slice la l.length lc, .slice ta tn tc, .string s] 44) = W0 at *
  clear hW0
  obtain ⟨cs, hbox, hcs⟩ := hbox
  have key : ∀ {W : World}, W.heap[w.heap.size]? = some (.cells cs 44 (0, 0)) → W.cell? ⟨w.heap.size, 11, none⟩ = some (.slice la l.length lc) := fun {W} hW => by
    simp only [World.cell?, hW]
    simpa using hcs
  have KEY : Hid (∀ {W : World}, W.heap[w.heap.size]? = some (.cells cs 44 (0, 0)) → W.cell? ⟨w.heap.size, 11, none⟩ = some (.slice la l.length lc)) := key
  clear key hcs
  have hlow0 := HR.out.below hb0
  have hs0 : w.heap.size < W0.heap.size := lt_some hbox
  have q0 := KEY.out hbox
  go_upto_region 11 with (go_at_call 42; refine (lend_any la lc l W0 hlow0.raw HL.out).mono ?_; rintro e w1 ⟨g, rfl, hg, hrow1, hb1⟩)
  have hbox1 := (hb1.block _ hs0).trans hbox
  have q1 := KEY.out hbox1
  have hb01 := hb0.trans (hb1.mono hb0.size)
  have hs1 : w.heap.size < w1.heap.size := lt_some hbox1
  clear q0 hb1 hbox hb0
  go_upto_region 12 with (go_at_call 43; refine (hullp_any (some ⟨g, 0, none⟩) (l.length + 8) l w1 hrow1.raw).mono ?_; rintro e w2 ⟨v, c, rfl, hA, hown2, hb2⟩)
  have hbox2 := (hb2.block _ hs1).trans hbox1
  have q2 := KEY.out hbox2
  have hrow2 := hrow1.keep (hb2.block g hrow1.lt)
  have hb02 := hb01.trans (hb2.mono hb01.size)
  have hs2 : w.heap.size < w2.heap.size := lt_some hbox2
  have hlow2 := HR.out.below hb02
  have hown2' := own_mono hown2 (show w.heap.size ≤ w1.heap.size by omega)
  obtain ⟨va, vc, rfl⟩ := own_anyW hown2
  clear q1 hb2 hbox1 hrow1 hb01 hown2 hlow0
  go_upto_region 13 with (go_at_call 44; refine (hullr_any la lc l c w2 hlow2.raw hA).mono ?_; rintro e w3 ⟨v3, rfl, hown3, hb3⟩)
  have hbox3 := (hb3.block _ hs2).trans hbox2
  have hrow3 := hrow2.keep (hb3.block g hrow2.lt)
  have hb03 := hb02.trans (hb3.mono hb02.size)
  have hs3 : w.heap.size < w3.heap.size := lt_some hbox3
  have hown23 := own_below hown2' hb3
  have hia := IntsAt.own hown23
  have hib := IntsAt.own hown3
  obtain ⟨va3, vc3, rfl⟩ := own_anyW hown3
  clear q2 hb3 hbox2 hrow2 hb02 hown2' hown3 hlow2
  go_upto_region 14 with (go_at_call 45; refine (sameInts_any _ _ c w3 hia hib hA.le).mono ?_; rintro e w4 ⟨rfl, hb4⟩)
  have hbox4 := (hb4.block _ hs3).trans hbox3
  have hrow4 := hrow3.keep (hb4.block g hrow3.lt)
  have hb04 := hb03.trans (hb4.mono hb03.size)
  have hs4 : w.heap.size < w4.heap.size := lt_some hbox4
  have hown4 := own_below hown23 hb4
  have hB4 := HB.out.1.below hb04
  have hown4' := ownB_mono hown4 (Nat.zero_le _)
  have hcb := hA.le
  have HB2 := HB.out.2
  have hnb : ∀ g, (Value.slice va c.length vc).ownBlock = some g → w.heap.size ≤ g := new_row hown4
  have hzero : ∀ k, w.heap.size ≤ k → tag k = 0 := fun k hk => by
    by_cases h : tag k = 0
    · exact h
    · have := HB.out.1.lt k h
      omega
  have HIN : Hid (Calls Tryz.prog 46 #[.pointer (some ⟨WB, 1, none⟩), .slice va c.length vc] w4 fun e w' => e = .returned (.tuple #[]) ∧ Wrote 0 WB v0 tag sh nk (.slice va c.length vc) w4 w') :=
    bints_any WB nk c.length v0 _ tag sh _ w4 hB4 (HB2.1 0 (by decide)).1 (by have := (HB2.1 0 (by decide)).2; omega) (by omega) hown4' (by omega) fun g hg => ⟨hzero g (hnb g hg), by have := hnb g hg; omega⟩
  have HFR : Hid (∀ w5, Wrote 0 WB v0 tag sh nk (.slice va c.length vc) w4 w5 → ∃ tag', Bks w5 WB v0 tag' (N + 1) ∧ Agree w tag tag' ∧ Chg (BkF WB tag) w w5 ∧ w5.heap[w.heap.size]? = some (.cells cs 44 (0, 0)) ∧ RowP w5 g (l ++ marksTo 8) ∧ tag' g = 0) := fun w5 hW => by
    obtain ⟨tag', k1, k2, k3, k4⟩ := hW.after (by decide) HB.out.1 HB2.1 HB2.2 hb04 hnb
    have x1 := (k4 w.heap.size hs4 (Nat.le_refl _) (other_block hown4 hbox4 (by decide))).1
    have x2 := k4 g hrow4.lt (by omega) (other_block hown4 hrow4 (by decide))
    exact ⟨tag', k1, k2, k3, x1.trans hbox4, hrow4.keep x2.1, x2.2⟩
  clear hb4 hbox3 hrow3 hb03 hown23 hown4 hB4 hown4' HB2 hia hib hnb hzero
  go_upto_region 15 with (go_at_call 46; refine HIN.out.mono ?_; rintro e w5 ⟨rfl, hW5⟩)
  obtain ⟨tag5, hB5, hag5, hc5, hbox5, hrow5, htg5⟩ := HFR.out w5 hW5
  have q5 := KEY.out hbox5
  have hlow5 := HR.out.chg hc5 HB.out.1.tW
  have hs5 : w.heap.size < w5.heap.size := lt_some hbox5
  have HB5 : Hid (Bks w5 WB v0 tag5 (N + 1) ∧ Agree w tag tag5 ∧ Chg (BkF WB tag) w w5 ∧ tag5 g = 0) := ⟨hB5, hag5, hc5, htg5⟩
  have hne : ∀ b off, la = some ⟨b, off, none⟩ → l ≠ [] → b ≠ g := fun b off e h0 => by
    rcases HR.out with h | ⟨b', off', e', hlt, _⟩
    · exact absurd h h0
    · rw [e] at e'; cases e'; omega
  have HRT := returned_any g (l.length + 8) la lc l w5 hlow5.raw hrow5 hne HL.out
  clear hB5 hag5 hc5 htg5 hW5 hbox4 hbox5 hrow4 hb04 hlow5 hne HFR HIN hs4
  go_upto_region 16 with (go_at_call 47; refine HRT.mono ?_; rintro e w6 ⟨rfl, hg6⟩)
  have hR : StepOk WB v0 N tag w w6 := by
    obtain ⟨h1, h2, h3, h4⟩ := HB5.out
    have hcg : Chg (fun k => k = g) w5 w6 := Chg.of_grown hg6 fun k hk => by cases hk; rfl
    exact ⟨tag5, h1.chg hcg fun k hk _ => .inl (by rw [hk]; exact h4), h2, h3.trans hcg fun k hk e => by omega⟩
  have HRR : Hid (StepOk WB v0 N tag w w6) := hR
  clear hR HRT HB5 hrow5 hg6 q5
  go_wp2_with (go_at_call 39; refine (num_any _ _).mono ?_; rintro e w7 ⟨rfl, rfl⟩)
  go_ret
  exact ⟨rfl, HRR.out⟩


set_option maxHeartbeats 2000000 in
set_option maxRecDepth 100000 in
theorem bjoins_fault (WB N : Nat) (v0 : Value) (tag : Nat → Nat) (n wh ax ay bx by' cx cy dx dy : Int) (la : Option Addr) (l : List Pt) (lc : Nat) (ta : Option Addr) (tn tc : Nat) (s : ByteArray) (w : World) (h : Bks w WB v0 tag N) (hN : N ≤ 925904528800) (hr : ForAt tag w la l) (hl : l.length ≤ 8796093021952) (hf : faultN l ≠ 0) :
    Calls Tryz.prog 20 #[.pointer (some ⟨WB, 0, none⟩), opVal 4 n wh ax ay bx by' cx cy dx dy la l.length lc ta tn tc s] w fun e w' => e = .returned (.bool true) ∧ StepOk WB v0 N tag w w' := by
  obtain ⟨sh, nk, hB, hlen, hnk⟩ := h
  have hWB := hB.ltW
  have HB : Hid (Bk w WB v0 tag sh nk ∧ (∀ j, j < 3 → (sh j).ls.length = (sh j).ms.length ∧ (sh j).ls.length ≤ 4 * N) ∧ nk ≤ 2 * N) := ⟨hB, hlen, hnk⟩
  have HR : Hid (ForAt tag w la l) := hr
  have HL : Hid (l.length ≤ 8796093021952) := hl
  have l20 : (l.length : Int) ≤ 8796093021952 := by omega
  clear hB hlen hnk hr hl
  go_enter Tryz.func20, Tryz.ntmps20
  go_upto_region 1 with fail
  have hb0 : Below w.heap.size w (w.alloc (.cells #[.int .i64 4, .int .i64 n, .int .i64 wh, .int .i64 ax, .int .i64 ay, .int .i64 bx, .int .i64 by', .int .i64 cx, .int .i64 cy, .int .i64 dx, .int .i64 dy, .slice la l.length lc, .slice ta tn tc, .string s] 44)) := below1 _ _
  have hbox : ∃ cs, (w.alloc (.cells #[.int .i64 4, .int .i64 n, .int .i64 wh, .int .i64 ax, .int .i64 ay, .int .i64 bx, .int .i64 by', .int .i64 cx, .int .i64 cy, .int .i64 dx, .int .i64 dy, .slice la l.length lc, .slice ta tn tc, .string s] 44)).heap[w.heap.size]? = some (.cells cs 44 (0, 0)) ∧ cs[11]? = some (.slice la l.length lc) := ⟨_, heap_alloc_new _ _, rfl⟩
  generalize hW0 : w.alloc (.cells #[.int .i64 4, .int .i64 n, .int .i64 wh, .int .i64 ax, .int .i64 ay, .int .i64 bx, .int .i64 by', .int .i64 cx, .int .i64 cy, .int .i64 dx, .int .i64 dy, .slice la l.length lc, .slice ta tn tc, .string s] 44) = W0 at *
  clear hW0
  obtain ⟨cs, hbox, hcs⟩ := hbox
  have key : ∀ {W : World}, W.heap[w.heap.size]? = some (.cells cs 44 (0, 0)) → W.cell? ⟨w.heap.size, 11, none⟩ = some (.slice la l.length lc) := fun {W} hW => by
    simp only [World.cell?, hW]
    simpa using hcs
  have KEY : Hid (∀ {W : World}, W.heap[w.heap.size]? = some (.cells cs 44 (0, 0)) → W.cell? ⟨w.heap.size, 11, none⟩ = some (.slice la l.length lc)) := key
  clear key hcs
  have hlow0 := HR.out.below hb0
  have hs0 : w.heap.size < W0.heap.size := lt_some hbox
  have q0 := KEY.out hbox
  go_upto_region 2 with (go_at_call 42; refine (lend_any la lc l W0 hlow0.raw HL.out).mono ?_; rintro e w1 ⟨g, rfl, hg, hrow1, hb1⟩)
  have hbox1 := (hb1.block _ hs0).trans hbox
  have q1 := KEY.out hbox1
  have hb01 := hb0.trans (hb1.mono hb0.size)
  have hs1 : w.heap.size < w1.heap.size := lt_some hbox1
  clear q0 hb1 hbox hb0
  go_upto_region 3 with (go_at_call 12; refine (triT_any (some ⟨g, 0, none⟩) (l.length + 8) l w1 hrow1.raw).mono ?_; rintro e w2 ⟨v, ts, rfl, hA, hown2, htl, hb2⟩)
  have hbox2 := (hb2.block _ hs1).trans hbox1
  have q2 := KEY.out hbox2
  have hrow2 := hrow1.keep (hb2.block g hrow1.lt)
  have hb02 := hb01.trans (hb2.mono hb01.size)
  have hs2 : w.heap.size < w2.heap.size := lt_some hbox2
  have hlow2 := HR.out.below hb02
  have hown2' := ownB_mono hown2 (show w.heap.size ≤ w1.heap.size by omega)
  clear q1 hb2 hbox1 hrow1 hb01 hown2 hlow0
  have hts : ts = [] := by
    rcases hA with ⟨h, _⟩ | ⟨h, _⟩
    · exact h
    · exact absurd h hf
  subst hts
  clear hA
  obtain ⟨va, vc, rfl⟩ := ownS_any hown2'
  go_upto_region 4 with (go_at_call 48; refine (check_any la lc l w2 hlow2.raw).mono ?_; rintro e w3 ⟨rfl, hb3⟩)
  have hbox3 := (hb3.block _ hs2).trans hbox2
  have q3 := KEY.out hbox3
  have hrow3 := hrow2.keep (hb3.block g hrow2.lt)
  have hb03 := hb02.trans (hb3.mono hb02.size)
  have hs3 : w.heap.size < w3.heap.size := lt_some hbox3
  have hown23 := ownB_below hown2' hb3
  have hlow3 := HR.out.below hb03
  clear q2 hb3 hbox2 hrow2 hb02 hown2' hlow2
  have hf' : (faultN l != 0) = true := by simpa using hf
  generalize faultN l = f at *
  go_upto_region 5 with fail
  obtain ⟨w4, hw4⟩ : ∃ w4, w4 = w3 := ⟨_, rfl⟩
  have hb4 : Below w3.heap.size w3 w4 := by rw [hw4]; exact Below.refl _ _
  rw [← hw4]
  clear hw4 hlow3
  have hbox4 := (hb4.block _ hs3).trans hbox3
  have hrow4 := hrow3.keep (hb4.block g hrow3.lt)
  have hb04 := hb03.trans (hb4.mono hb03.size)
  have hs4 : w.heap.size < w4.heap.size := lt_some hbox4
  have hown4 := ownB_below hown23 hb4
  have hB4 := HB.out.1.below hb04
  have hown4' := ownB_mono hown4 (Nat.zero_le _)
  have HB2 := HB.out.2
  have hnb : ∀ g, (Value.slice va ([] : List T3).length vc).ownBlock = some g → w.heap.size ≤ g := new_row hown4
  have hzero : ∀ k, w.heap.size ≤ k → tag k = 0 := fun k hk => by
    by_cases h : tag k = 0
    · exact h
    · have := HB.out.1.lt k h
      omega
  have HIN : Hid (Calls Tryz.prog 50 #[.pointer (some ⟨WB, 1, none⟩), .slice va ([] : List T3).length vc] w4 fun e w' => e = .returned (.tuple #[]) ∧ Wrote 1 WB v0 tag sh nk (.slice va ([] : List T3).length vc) w4 w') :=
    btris_any WB nk ([] : List T3).length v0 _ tag sh _ w4 hB4 (HB2.1 1 (by decide)).1 (by have := (HB2.1 1 (by decide)).2; omega) (by omega) hown4' (by simp) fun g hg => ⟨hzero g (hnb g hg), by have := hnb g hg; omega⟩
  have HFR : Hid (∀ w5, Wrote 1 WB v0 tag sh nk (.slice va ([] : List T3).length vc) w4 w5 → ∃ tag', Bks w5 WB v0 tag' (N + 1) ∧ Agree w tag tag' ∧ Chg (BkF WB tag) w w5 ∧ w5.heap[w.heap.size]? = some (.cells cs 44 (0, 0)) ∧ RowP w5 g (l ++ marksTo 8) ∧ tag' g = 0) := fun w5 hW => by
    obtain ⟨tag', k1, k2, k3, k4⟩ := hW.after (by decide) HB.out.1 HB2.1 HB2.2 hb04 hnb
    have x1 := (k4 w.heap.size hs4 (Nat.le_refl _) (other_block hown4 hbox4 (by decide))).1
    have x2 := k4 g hrow4.lt (by omega) (other_block hown4 hrow4 (by decide))
    exact ⟨tag', k1, k2, k3, x1.trans hbox4, hrow4.keep x2.1, x2.2⟩
  clear hb4 hbox3 hrow3 hb03 hown23 hown4 hB4 hown4' HB2 hnb hzero
  go_upto_region 6 with (go_at_call 50; refine HIN.out.mono ?_; rintro e w5 ⟨rfl, hW5⟩)
  obtain ⟨tag5, hB5, hag5, hc5, hbox5, hrow5, htg5⟩ := HFR.out w5 hW5
  have q5 := KEY.out hbox5
  have hlow5 := HR.out.chg hc5 HB.out.1.tW
  have hs5 : w.heap.size < w5.heap.size := lt_some hbox5
  have HB5 : Hid (Bks w5 WB v0 tag5 (N + 1) ∧ Agree w tag tag5 ∧ Chg (BkF WB tag) w w5 ∧ tag5 g = 0) := ⟨hB5, hag5, hc5, htg5⟩
  have hne : ∀ b off, la = some ⟨b, off, none⟩ → l ≠ [] → b ≠ g := fun b off e h0 => by
    rcases HR.out with h | ⟨b', off', e', hlt, _⟩
    · exact absurd h h0
    · rw [e] at e'; cases e'; omega
  have HRT := returned_any g (l.length + 8) la lc l w5 hlow5.raw hrow5 hne HL.out
  clear hB5 hag5 hc5 htg5 hW5 hbox4 hbox5 hrow4 hb04 hlow5 hne HFR HIN hs4
  go_upto_region 7 with (go_at_call 47; refine HRT.mono ?_; rintro e w6 ⟨rfl, hg6⟩)
  have hR : StepOk WB v0 N tag w w6 := by
    obtain ⟨h1, h2, h3, h4⟩ := HB5.out
    have hcg : Chg (fun k => k = g) w5 w6 := Chg.of_grown hg6 fun k hk => by cases hk; rfl
    exact ⟨tag5, h1.chg hcg fun k hk _ => .inl (by rw [hk]; exact h4), h2, h3.trans hcg fun k hk e => by omega⟩
  have HRR : Hid (StepOk WB v0 N tag w w6) := hR
  clear hR HRT HB5 hrow5 hg6 q5
  go_wp2_with (go_at_call 39; refine (num_any _ _).mono ?_; rintro e w7 ⟨rfl, rfl⟩)
  go_ret
  exact ⟨rfl, HRR.out⟩


set_option maxHeartbeats 2000000 in
set_option maxRecDepth 100000 in
theorem bjoins_ok (WB N : Nat) (v0 : Value) (tag : Nat → Nat) (n wh ax ay bx by' cx cy dx dy : Int) (la : Option Addr) (l : List Pt) (lc : Nat) (ta : Option Addr) (tn tc : Nat) (s : ByteArray) (w : World) (h : Bks w WB v0 tag N) (hN : N ≤ 925904528800) (hr : ForAt tag w la l) (hl : l.length ≤ 8796093021952) (hf : faultN l = 0) :
    Calls Tryz.prog 20 #[.pointer (some ⟨WB, 0, none⟩), opVal 4 n wh ax ay bx by' cx cy dx dy la l.length lc ta tn tc s] w fun e w' => e = .returned (.bool true) ∧ StepOk WB v0 N tag w w' := by
  obtain ⟨sh, nk, hB, hlen, hnk⟩ := h
  have hWB := hB.ltW
  have HB : Hid (Bk w WB v0 tag sh nk ∧ (∀ j, j < 3 → (sh j).ls.length = (sh j).ms.length ∧ (sh j).ls.length ≤ 4 * N) ∧ nk ≤ 2 * N) := ⟨hB, hlen, hnk⟩
  have HR : Hid (ForAt tag w la l) := hr
  have HL : Hid (l.length ≤ 8796093021952) := hl
  have l20 : (l.length : Int) ≤ 8796093021952 := by omega
  clear hB hlen hnk hr hl
  go_enter Tryz.func20, Tryz.ntmps20
  go_upto_region 1 with fail
  have hb0 : Below w.heap.size w (w.alloc (.cells #[.int .i64 4, .int .i64 n, .int .i64 wh, .int .i64 ax, .int .i64 ay, .int .i64 bx, .int .i64 by', .int .i64 cx, .int .i64 cy, .int .i64 dx, .int .i64 dy, .slice la l.length lc, .slice ta tn tc, .string s] 44)) := below1 _ _
  have hbox : ∃ cs, (w.alloc (.cells #[.int .i64 4, .int .i64 n, .int .i64 wh, .int .i64 ax, .int .i64 ay, .int .i64 bx, .int .i64 by', .int .i64 cx, .int .i64 cy, .int .i64 dx, .int .i64 dy, .slice la l.length lc, .slice ta tn tc, .string s] 44)).heap[w.heap.size]? = some (.cells cs 44 (0, 0)) ∧ cs[11]? = some (.slice la l.length lc) := ⟨_, heap_alloc_new _ _, rfl⟩
  generalize hW0 : w.alloc (.cells #[.int .i64 4, .int .i64 n, .int .i64 wh, .int .i64 ax, .int .i64 ay, .int .i64 bx, .int .i64 by', .int .i64 cx, .int .i64 cy, .int .i64 dx, .int .i64 dy, .slice la l.length lc, .slice ta tn tc, .string s] 44) = W0 at *
  clear hW0
  obtain ⟨cs, hbox, hcs⟩ := hbox
  have key : ∀ {W : World}, W.heap[w.heap.size]? = some (.cells cs 44 (0, 0)) → W.cell? ⟨w.heap.size, 11, none⟩ = some (.slice la l.length lc) := fun {W} hW => by
    simp only [World.cell?, hW]
    simpa using hcs
  have KEY : Hid (∀ {W : World}, W.heap[w.heap.size]? = some (.cells cs 44 (0, 0)) → W.cell? ⟨w.heap.size, 11, none⟩ = some (.slice la l.length lc)) := key
  clear key hcs
  have hlow0 := HR.out.below hb0
  have hs0 : w.heap.size < W0.heap.size := lt_some hbox
  have q0 := KEY.out hbox
  go_upto_region 2 with (go_at_call 42; refine (lend_any la lc l W0 hlow0.raw HL.out).mono ?_; rintro e w1 ⟨g, rfl, hg, hrow1, hb1⟩)
  have hbox1 := (hb1.block _ hs0).trans hbox
  have q1 := KEY.out hbox1
  have hb01 := hb0.trans (hb1.mono hb0.size)
  have hs1 : w.heap.size < w1.heap.size := lt_some hbox1
  clear q0 hb1 hbox hb0
  go_upto_region 3 with (go_at_call 12; refine (triT_any (some ⟨g, 0, none⟩) (l.length + 8) l w1 hrow1.raw).mono ?_; rintro e w2 ⟨v, ts, rfl, hA, hown2, htl, hb2⟩)
  have hbox2 := (hb2.block _ hs1).trans hbox1
  have q2 := KEY.out hbox2
  have hrow2 := hrow1.keep (hb2.block g hrow1.lt)
  have hb02 := hb01.trans (hb2.mono hb01.size)
  have hs2 : w.heap.size < w2.heap.size := lt_some hbox2
  have hlow2 := HR.out.below hb02
  have hown2' := ownB_mono hown2 (show w.heap.size ≤ w1.heap.size by omega)
  clear q1 hb2 hbox1 hrow1 hb01 hown2 hlow0
  have hA' : TriSpec l ts := by
    rcases hA with ⟨_, h⟩ | ⟨_, h⟩
    · exact absurd hf h
    · exact h
  have HA : Hid (TriSpec l ts ∧ faultN l = 0) := ⟨hA', hf⟩
  clear hA hA'
  obtain ⟨va, vc, rfl⟩ := ownS_any hown2'
  go_upto_region 4 with (go_at_call 48; refine (check_any la lc l w2 hlow2.raw).mono ?_; rintro e w3 ⟨rfl, hb3⟩)
  have hbox3 := (hb3.block _ hs2).trans hbox2
  have q3 := KEY.out hbox3
  have hrow3 := hrow2.keep (hb3.block g hrow2.lt)
  have hb03 := hb02.trans (hb3.mono hb02.size)
  have hs3 : w.heap.size < w3.heap.size := lt_some hbox3
  have hown23 := ownB_below hown2' hb3
  have hlow3 := HR.out.below hb03
  clear q2 hb3 hbox2 hrow2 hb02 hown2' hlow2
  have HIS := isr_any la lc _ l ts _ w3 hlow3.raw hf HA.out.1 hown23 htl
  go_upto_region 5 with (go_at_call 49; refine HIS.mono ?_; rintro e w4 ⟨rfl, hb4⟩)
  clear HIS hlow3
  have hbox4 := (hb4.block _ hs3).trans hbox3
  have hrow4 := hrow3.keep (hb4.block g hrow3.lt)
  have hb04 := hb03.trans (hb4.mono hb03.size)
  have hs4 : w.heap.size < w4.heap.size := lt_some hbox4
  have hown4 := ownB_below hown23 hb4
  have hB4 := HB.out.1.below hb04
  have hown4' := ownB_mono hown4 (Nat.zero_le _)
  have HB2 := HB.out.2
  have hnb : ∀ g, (Value.slice va ts.length vc).ownBlock = some g → w.heap.size ≤ g := new_row hown4
  have hzero : ∀ k, w.heap.size ≤ k → tag k = 0 := fun k hk => by
    by_cases h : tag k = 0
    · exact h
    · have := HB.out.1.lt k h
      omega
  have HIN : Hid (Calls Tryz.prog 50 #[.pointer (some ⟨WB, 1, none⟩), .slice va ts.length vc] w4 fun e w' => e = .returned (.tuple #[]) ∧ Wrote 1 WB v0 tag sh nk (.slice va ts.length vc) w4 w') :=
    btris_any WB nk ts.length v0 _ tag sh _ w4 hB4 (HB2.1 1 (by decide)).1 (by have := (HB2.1 1 (by decide)).2; omega) (by omega) hown4' (by omega) fun g hg => ⟨hzero g (hnb g hg), by have := hnb g hg; omega⟩
  have HFR : Hid (∀ w5, Wrote 1 WB v0 tag sh nk (.slice va ts.length vc) w4 w5 → ∃ tag', Bks w5 WB v0 tag' (N + 1) ∧ Agree w tag tag' ∧ Chg (BkF WB tag) w w5 ∧ w5.heap[w.heap.size]? = some (.cells cs 44 (0, 0)) ∧ RowP w5 g (l ++ marksTo 8) ∧ tag' g = 0) := fun w5 hW => by
    obtain ⟨tag', k1, k2, k3, k4⟩ := hW.after (by decide) HB.out.1 HB2.1 HB2.2 hb04 hnb
    have x1 := (k4 w.heap.size hs4 (Nat.le_refl _) (other_block hown4 hbox4 (by decide))).1
    have x2 := k4 g hrow4.lt (by omega) (other_block hown4 hrow4 (by decide))
    exact ⟨tag', k1, k2, k3, x1.trans hbox4, hrow4.keep x2.1, x2.2⟩
  clear hb4 hbox3 hrow3 hb03 hown23 hown4 hB4 hown4' HB2 hnb hzero
  go_upto_region 6 with (go_at_call 50; refine HIN.out.mono ?_; rintro e w5 ⟨rfl, hW5⟩)
  obtain ⟨tag5, hB5, hag5, hc5, hbox5, hrow5, htg5⟩ := HFR.out w5 hW5
  have q5 := KEY.out hbox5
  have hlow5 := HR.out.chg hc5 HB.out.1.tW
  have hs5 : w.heap.size < w5.heap.size := lt_some hbox5
  have HB5 : Hid (Bks w5 WB v0 tag5 (N + 1) ∧ Agree w tag tag5 ∧ Chg (BkF WB tag) w w5 ∧ tag5 g = 0) := ⟨hB5, hag5, hc5, htg5⟩
  have hne : ∀ b off, la = some ⟨b, off, none⟩ → l ≠ [] → b ≠ g := fun b off e h0 => by
    rcases HR.out with h | ⟨b', off', e', hlt, _⟩
    · exact absurd h h0
    · rw [e] at e'; cases e'; omega
  have HRT := returned_any g (l.length + 8) la lc l w5 hlow5.raw hrow5 hne HL.out
  clear hB5 hag5 hc5 htg5 hW5 hbox4 hbox5 hrow4 hb04 hlow5 hne HFR HIN hs4
  go_upto_region 7 with (go_at_call 47; refine HRT.mono ?_; rintro e w6 ⟨rfl, hg6⟩)
  have hR : StepOk WB v0 N tag w w6 := by
    obtain ⟨h1, h2, h3, h4⟩ := HB5.out
    have hcg : Chg (fun k => k = g) w5 w6 := Chg.of_grown hg6 fun k hk => by cases hk; rfl
    exact ⟨tag5, h1.chg hcg fun k hk _ => .inl (by rw [hk]; exact h4), h2, h3.trans hcg fun k hk e => by omega⟩
  have HRR : Hid (StepOk WB v0 N tag w w6) := hR
  clear hR HRT HB5 hrow5 hg6 q5
  go_wp2_with (go_at_call 39; refine (num_any _ _).mono ?_; rintro e w7 ⟨rfl, rfl⟩)
  go_ret
  exact ⟨rfl, HRR.out⟩


theorem bjoins_any (WB N : Nat) (v0 : Value) (tag : Nat → Nat) (n wh ax ay bx by' cx cy dx dy : Int) (la : Option Addr) (l : List Pt) (lc : Nat) (ta : Option Addr) (tn tc : Nat) (s : ByteArray) (w : World) (h : Bks w WB v0 tag N) (hN : N ≤ 925904528800) (hr : ForAt tag w la l) (hl : l.length ≤ 8796093021952) :
    Calls Tryz.prog 20 #[.pointer (some ⟨WB, 0, none⟩), opVal 4 n wh ax ay bx by' cx cy dx dy la l.length lc ta tn tc s] w fun e w' => e = .returned (.bool true) ∧ StepOk WB v0 N tag w w' := by
  by_cases hf : faultN l = 0
  · exact bjoins_ok WB N v0 tag n wh ax ay bx by' cx cy dx dy la l lc ta tn tc s w h hN hr hl hf
  · exact bjoins_fault WB N v0 tag n wh ax ay bx by' cx cy dx dy la l lc ta tn tc s w h hN hr hl hf

end Go.Proofs.YtgpapegpdfonpaaGreatDoor
