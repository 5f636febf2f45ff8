/-
  The statement's book, whole: what a step leaves; Triangulate's answer and the document's rules.
  The statement's steps, by the whole book: World.points, World.joins.
-/
import Derived.Test.YtgpapegpdfonpaaGreatDoorBookK
import Derived.Test.YtgpapegpdfonpaaGreatDoorBookIT
import Derived.Test.YtgpapegpdfonpaaGreatDoorLawEG
import Derived.Test.YtgpapegpdfonpaaGreatDoorRefFH
import Derived.Test.YtgpapegpdfonpaaGreatDoorJoinJL
set_option linter.unusedVariables false
set_option linter.unusedSimpArgs false
namespace Go.Proofs.YtgpapegpdfonpaaGreatDoor
open Go.RowKit
attribute [local go_sem ↓] Go.wp_at_zero Go.wp_at_succ
def Bks (w : World) (WB : Nat) (v0 : Value) (tag : Nat → Nat) (N : Nat) : Prop := ∃ sh nk, Bk w WB v0 tag sh nk ∧ (∀ j, j < 3 → (sh j).ls.length = (sh j).ms.length ∧ (sh j).ls.length ≤ 4 * N) ∧ nk ≤ 2 * N
def BkF (WB : Nat) (tag : Nat → Nat) : Nat → Prop := fun k => k = WB ∨ (tag k ≠ 0 ∧ tag k ≤ 3)
def StepOk (WB : Nat) (v0 : Value) (N : Nat) (tag : Nat → Nat) (w w' : World) : Prop := ∃ tag', Bks w' WB v0 tag' (N + 1) ∧ Agree w tag tag' ∧ Chg (BkF WB tag) w w'
section
variable {w w' w4 w5 : World} {WB N M : Nat} {v0 : Value} {tag : Nat → Nat}
theorem Bks.more (h : Bks w WB v0 tag N) (hm : N ≤ M) : Bks w WB v0 tag M := by
 obtain ⟨sh, nk, h1, h2, h3⟩ := h
 exact ⟨sh, nk, h1, fun j hj => ⟨(h2 j hj).1, by have := (h2 j hj).2; omega⟩, by omega⟩
theorem Bks.below (h : Bks w WB v0 tag N) (hb : Below w.heap.size w w') : Bks w' WB v0 tag N := by
 obtain ⟨sh, nk, h1, h2⟩ := h
 exact ⟨sh, nk, h1.below hb, h2⟩
theorem Bks.chg {F : Nat → Prop} (h : Bks w WB v0 tag N) (hb : Chg F w w') (hF : ∀ k, F k → k < w.heap.size → tag k = 0 ∨ 4 < tag k) : Bks w' WB v0 tag N := by
 obtain ⟨sh, nk, h1, h2⟩ := h
 exact ⟨sh, nk, h1.chg hb hF, h2⟩
theorem Bks.lt (h : Bks w WB v0 tag N) : WB < w.heap.size := by
 obtain ⟨sh, nk, h1, h2⟩ := h
 exact h1.ltW
theorem Bks.low (h : Bks w WB v0 tag N) : ∀ k, k < WB → tag k = 0 := by
 obtain ⟨sh, nk, h1, h2⟩ := h
 exact h1.low
theorem Bks.tlt (h : Bks w WB v0 tag N) : ∀ k, tag k ≠ 0 → k < w.heap.size := by
 obtain ⟨sh, nk, h1, h2⟩ := h
 exact h1.lt
theorem Bks.cell0 (h : Bks w WB v0 tag N) : w.cell? ⟨WB, 0, none⟩ = some v0 := by
 obtain ⟨sh, nk, h1, h2⟩ := h
 exact h1.cells.1
theorem StepOk.of_below (h : Bks w WB v0 tag N) (hb : Below w.heap.size w w') : StepOk WB v0 N tag w w' :=
 ⟨tag, (h.below hb).more (by omega), fun _ _ => rfl, Chg.of_below hb⟩
theorem StepOk.low (h : StepOk WB v0 N tag w w') (hB : Bks w WB v0 tag N) : Below WB w w' := by
 obtain ⟨tag', _, _, hc⟩ := h
 refine hc.below (Nat.le_of_lt hB.lt) fun k hk hF => ?_
 have := hB.low k hk
 rcases hF with hF | ⟨hF, _⟩ <;> omega
theorem StepOk.pre {o : Obj} (h : StepOk WB v0 N tag (w.alloc o) w') : StepOk WB v0 N tag w w' := by
 obtain ⟨tag', h1, h2, h3⟩ := h
 exact ⟨tag', h1, fun k hk => h2 k (by simp; omega), (Chg.of_below (F := BkF WB tag) (below1 w o)).trans h3 fun _ _ h => h⟩
theorem Wrote.after {j nk : Nat} {sh : Nat → Sh} {v : Value} (hW : Wrote j WB v0 tag sh nk v w4 w5) (hj : j < 3) (hB : Bk w WB v0 tag sh nk) (hl : ∀ j, j < 3 → (sh j).ls.length = (sh j).ms.length ∧ (sh j).ls.length ≤ 4 * N) (hnk : nk ≤ 2 * N)
  (hb : Below w.heap.size w w4) (hv : ∀ g, v.ownBlock = some g → w.heap.size ≤ g) :
  ∃ tag', Bks w5 WB v0 tag' (N + 1) ∧ Agree w tag tag' ∧ Chg (BkF WB tag) w w5 ∧ ∀ k, k < w4.heap.size → w.heap.size ≤ k → some k ≠ v.ownBlock → w5.heap[k]? = w4.heap[k]? ∧ tag' k = 0 := by
 obtain ⟨tag', sh', hB', hoth, hl1, hl2, htag, hchg⟩ := hW
 have hW := hB.ltW
 refine ⟨tag', ⟨sh', nk + 1, hB', fun i hi => ?_, by omega⟩, fun k hk => htag k (Nat.lt_of_lt_of_le hk hb.size) fun e => by have := hv k e.symm; omega, (Chg.of_below (F := BkF WB tag) hb).trans hchg fun i hi h => ?_, fun k hk4 hk hne => ?_⟩
 ·by_cases e : i = j
  ·subst e
   have := hl i hi
   exact ⟨hl1, by omega⟩
  ·rw [hoth i e]
   have := hl i hi
   exact ⟨this.1, by omega⟩
 ·rcases h with h | h | h
  ·exact .inl h
  ·exact .inr ⟨by omega, by omega⟩
  ·have := hv i h.symm
   omega
 ·have h0 : tag k = 0 := by
   by_cases h : tag k = 0
   ·exact h
   ·have := hB.lt k h
    omega
  exact ⟨hchg.far k hk4 fun h => by rcases h with h | h | h <;> first | omega | exact hne h, by rw [htag k hk4 hne, h0]⟩
end
def AnsT (l : List Pt) (ts : List T3) : Prop := (ts = [] ∧ faultN l ≠ 0) ∨ (faultN l = 0 ∧ TriSpec l ts)
theorem ownT_none (w : World) (base : Nat) : w.ownsRow base 53 3 (.slice none 0 0) ([] : List T3).length (flatT []) := World.ownsRow_nil _ _ _ _
theorem spec_none : TriSpec [] [] := ⟨[], ⟨by simp, fun i j _ h => by simp at h⟩, .inl ⟨fun j _ h => by simp at h, rfl⟩⟩
theorem triT_any (a : Option Addr) (cap : Nat) (l : List Pt) (w : World) (hr : RawAt w a l) :
  Calls Tryz.prog 12 #[.slice a l.length cap] w fun e w' => ∃ v ts, e = .returned (.tuple #[v, .int .i64 (faultN l)]) ∧ AnsT l ts ∧ w'.ownsRow w.heap.size 53 3 v ts.length (flatT ts) ∧ ts.length ≤ 4000 ∧ Below w.heap.size w w' := by
 by_cases h60 : 60 < l.length
 ·refine (triang_many a l.length cap w h60).mono ?_
  rintro e w' ⟨rfl, hb⟩
  have hf : faultN l = 2 := fault_many' h60
  exact ⟨_, [], by rw [hf], .inl ⟨rfl, by rw [hf]; decide⟩, ownT_none _ _, by simp, hb⟩
 ·by_cases h0 : l = []
  ·subst h0
   refine (triang_none a cap w).mono ?_
   rintro e w' ⟨rfl, hb⟩
   exact ⟨_, [], rfl, .inr ⟨rfl, spec_none⟩, ownT_none _ _, by simp, hb⟩
  ·have hlp : 0 < l.length := List.length_pos_iff.2 h0
   rcases hr with hr | ⟨b, off, rfl, hb, hp⟩
   ·exact absurd hr h0
   ·by_cases hf : faultN l = 0
    ·refine (triang_any b off cap l (l.length - 1) w (by omega) hb hp hf).mono ?_
     rintro e w' ⟨v, ts, rfl, ho, hs, hl, hb⟩
     exact ⟨v, ts, by rw [hf], .inr ⟨hf, hs⟩, ho, hl, hb⟩
    ·refine (triang_fault b off cap l (l.length - 1) w (by omega) (by omega) hb hp hf).mono ?_
     rintro e w' ⟨rfl, hb⟩
     exact ⟨_, [], rfl, .inl ⟨rfl, hf⟩, ownT_none _ _, by simp, hb⟩
set_option maxHeartbeats 800000 in
theorem flat_nil (a : Option Addr) (cap : Nat) (w : World) : Calls Tryz.prog 92 #[.slice a 0 cap] w fun e w' => e = .returned (.bool true) ∧ w' = w := by
 go_enter Tryz.func92, Tryz.ntmps92
 go_wp2
 go_loopw [3] (fun i wr => i = .int .i64 2 ∧ wr = w) (fun _ _ => 0)
 case atStart => exact ⟨rfl, rfl⟩
 case round =>
  obtain ⟨rfl, rfl⟩ := hrel
  go_wp2
  go_ret
  exact ⟨rfl, rfl⟩
set_option maxHeartbeats 800000 in
theorem is_flat (a : Option Addr) (n cap : Nat) (ta : Option Addr) (tc : Nat) (w : World) (hF : Calls Tryz.prog 92 #[.slice a n cap] w fun e w' => e = .returned (.bool true) ∧ Below w.heap.size w w') :
  Calls Tryz.prog 49 #[.slice a n cap, .slice ta 0 tc] w fun e w' => e = .returned (.bool true) ∧ Below w.heap.size w w' := by
 go_enter Tryz.func49, Tryz.ntmps49
 go_wp2_with (go_at_call 92; refine hF.mono ?_; rintro e w1 ⟨rfl, hb1⟩)
 go_ret
 exact ⟨rfl, hb1⟩
theorem isr_any (a : Option Addr) (cap base : Nat) (l : List Pt) (ts : List T3) (v : Value) (w : World) (hr : RawAt w a l) (hf : faultN l = 0) (hS : TriSpec l ts) (ho : w.ownsRow base 53 3 v ts.length (flatT ts)) (htl : ts.length ≤ 4000) :
  Calls Tryz.prog 49 #[.slice a l.length cap, v] w fun e w' => e = .returned (.bool true) ∧ Below w.heap.size w w' := by
 obtain ⟨hl, hfar, hnd⟩ := fault_zero hf
 have hnear := near_of_far hfar
 obtain ⟨is, hio, hS⟩ := hS
 by_cases h0 : l = []
 ·subst h0
  have hts : ts = [] := by
   rcases hS with ⟨_, h⟩ | ⟨t, p, q, r, BS, _⟩
   ·exact h
   ·have h1 := BS.off.2.1
    have h2 : is.length = ([] : List Pt).length := hio.len
    rw [List.length_nil] at h2
    omega
  subst hts
  obtain ⟨ta, tc, rfl⟩ := ownS_any ho
  refine is_flat a _ cap ta tc w ((flat_nil a cap w).mono ?_)
  rintro e w' ⟨rfl, rfl⟩
  exact ⟨rfl, Below.refl _ _⟩
 ·rcases hr with hr | ⟨b, off, rfl, hb, hp⟩
  ·exact absurd hr h0
  ·rcases hS with ⟨hall, rfl⟩ | ⟨t, p, q, r, BS, hm, hpw⟩
   ·obtain ⟨ta, tc, rfl⟩ := ownS_any ho
    refine is_flat _ _ cap ta tc w ((flat_any b off cap l w hl hnear hb hp).mono ?_)
    rintro e w' ⟨B, rfl, hB, hb'⟩
    have : B = true := hB.2 fun i h2 hi => line_on hio hnd hall (by omega) (by omega) (by omega) hi
    subst this
    exact ⟨rfl, hb'⟩
   ·have F := is_ok hio hnd hnear BS hm hpw
    have hne : 0 < ts.length := by
     obtain ⟨x, h1, _⟩ := (fill_ok hio hnd hnear (arr_of hio hnd) (cornersN_nodup hio hnd) BS hm hpw).used 0 (List.length_pos_iff.2 h0)
     exact List.length_pos_of_mem h1
    obtain ⟨ta, tc, rfl⟩ := ownS_any ho
    obtain ⟨g, rfl, hg, _⟩ := ownS_place ho hne
    have hT : TrisAt w g ts := by
     intro j hj
     have f0 := flatT_get ts j 0 (by omega) hj
     have f1 := flatT_get ts j 1 (by omega) hj
     have f2 := flatT_get ts j 2 (by omega) hj
     have eg : ts.getD j (0, 0, 0) = ts[j] := by simp [hj]
     rw [eg]
     refine ⟨?_, ?_, ?_⟩
     ·rw [ho.cellAt _ (by omega)]; exact f0
     ·rw [ho.cellAt _ (by omega)]; exact f1
     ·rw [ho.cellAt _ (by omega)]; exact f2
    exact is_any b off cap g tc l ts w hl hnear hb hp hg hT htl F
end Go.Proofs.YtgpapegpdfonpaaGreatDoor

namespace Go.Proofs.YtgpapegpdfonpaaGreatDoor
open Go.RowKit
attribute [local go_sem ↓] Go.wp_at_zero Go.wp_at_succ
def ForAt (tag : Nat → Nat) (w : World) (a : Option Addr) (l : List Pt) : Prop := l = [] ∨ ∃ b off, a = some ⟨b, off, none⟩ ∧ b < w.heap.size ∧ tag b = 0 ∧ PtsAt w b off l
theorem ForAt.raw {tag : Nat → Nat} {w : World} {a : Option Addr} {l : List Pt} (h : ForAt tag w a l) : RawAt w a l := by
 rcases h with h | ⟨b, off, e, hb, _, hp⟩
 ·exact .inl h
 ·exact .inr ⟨b, off, e, hb, hp⟩
theorem ForAt.below {tag : Nat → Nat} {w w' : World} {a : Option Addr} {l : List Pt} (h : ForAt tag w a l) (hb : Below w.heap.size w w') : ForAt tag w' a l := by
 rcases h with h | ⟨b, off, e, hlt, ht, hp⟩
 ·exact .inl h
 ·exact .inr ⟨b, off, e, Nat.lt_of_lt_of_le hlt hb.size, ht, hp.below hb hlt⟩
theorem ForAt.chg {tag : Nat → Nat} {w w' : World} {WB : Nat} {a : Option Addr} {l : List Pt} (h : ForAt tag w a l) (hc : Chg (BkF WB tag) w w') (hW : tag WB = 4) : ForAt tag w' a l := by
 rcases h with h | ⟨b, off, e, hlt, ht, hp⟩
 ·exact .inl h
 ·have hn : ¬ BkF WB tag b := fun h => by
   rcases h with h | ⟨h, _⟩
   ·subst h; omega
   ·exact h ht
  exact .inr ⟨b, off, e, Nat.lt_of_lt_of_le hlt hc.size, ht, fun j hj => ⟨(hc.cell hlt hn).trans (hp j hj).1, (hc.cell hlt hn).trans (hp j hj).2⟩⟩
theorem new_row {w : World} {base s n : Nat} {e : TypeId} {v : Value} {xs : List Value} (h : w.ownsRow base e s v n xs) : ∀ g, v.ownBlock = some g → base ≤ g := fun g hg => (h.lt g hg).1
theorem other_block {w : World} {base s n k : Nat} {e t : TypeId} {v : Value} {xs : List Value} {cs : Array Value} (h : w.ownsRow base e s v n xs) (hk : w.heap[k]? = some (.cells cs t (0, 0))) (hne : t ≠ e) : some k ≠ v.ownBlock := fun e' => by
 obtain ⟨cur, hc⟩ := ownS_typ h e'.symm
 exact typ_ne hk hc hne rfl
set_option maxHeartbeats 2000000 in
set_option maxRecDepth 100000 in
theorem bpoints_hull (WB N : Nat) (v0 : Value) (tag : Nat → Nat) (n wh ax ay bx by' cx cy dx dy : Int) (la : Option Addr) (l : List Pt) (lc : Nat) (ta : Option Addr) (tn tc : Nat) (s : ByteArray) (w : World) (h : Bks w WB v0 tag N) (hN : N ≤ 925904528800) (hr : ForAt tag w la l) (hl : l.length ≤ 8796093021952) :
  Calls Tryz.prog 19 #[.pointer (some ⟨WB, 0, none⟩), opVal 3 n wh ax ay bx by' cx cy dx dy la l.length lc ta tn tc s] w fun e w' => e = .returned (.bool true) ∧ StepOk WB v0 N tag w w' := by
 obtain ⟨sh, nk, hB, hlen, hnk⟩ := h
 have hWB := hB.ltW
 have HB : Hid (Bk w WB v0 tag sh nk ∧ (∀ j, j < 3 → (sh j).ls.length = (sh j).ms.length ∧ (sh j).ls.length ≤ 4 * N) ∧ nk ≤ 2 * N) := ⟨hB, hlen, hnk⟩
 have HR : Hid (ForAt tag w la l) := hr
 have HL : Hid (l.length ≤ 8796093021952) := hl
 have l20 : (l.length : Int) ≤ 8796093021952 := by omega
 clear hB hlen hnk hr hl
 go_enter Tryz.func19, Tryz.ntmps19
 go_upto_region 10 with fail
 have hb0 : Below w.heap.size w (w.alloc (.cells #[.int .i64 3, .int .i64 n, .int .i64 wh, .int .i64 ax, .int .i64 ay, .int .i64 bx, .int .i64 by', .int .i64 cx, .int .i64 cy, .int .i64 dx, .int .i64 dy, .slice la l.length lc, .slice ta tn tc, .string s] 44)) := below1 _ _
 have hbox : ∃ cs, (w.alloc (.cells #[.int .i64 3, .int .i64 n, .int .i64 wh, .int .i64 ax, .int .i64 ay, .int .i64 bx, .int .i64 by', .int .i64 cx, .int .i64 cy, .int .i64 dx, .int .i64 dy, .slice la l.length lc, .slice ta tn tc, .string s] 44)).heap[w.heap.size]? = some (.cells cs 44 (0, 0)) ∧ cs[11]? = some (.slice la l.length lc) := ⟨_, heap_alloc_new _ _, rfl⟩
 generalize hW0 : w.alloc (.cells #[.int .i64 3, .int .i64 n, .int .i64 wh, .int .i64 ax, .int .i64 ay, .int .i64 bx, .int .i64 by', .int .i64 cx, .int .i64 cy, .int .i64 dx, .int .i64 dy, .slice la l.length lc, .slice ta tn tc, .string s] 44) = W0 at *
 clear hW0
 obtain ⟨cs, hbox, hcs⟩ := hbox
 have key : ∀ {W : World}, W.heap[w.heap.size]? = some (.cells cs 44 (0, 0)) → W.cell? ⟨w.heap.size, 11, none⟩ = some (.slice la l.length lc) := fun {W} hW => by
  simp only [World.cell?, hW]
  simpa using hcs
 have KEY : Hid (∀ {W : World}, W.heap[w.heap.size]? = some (.cells cs 44 (0, 0)) → W.cell? ⟨w.heap.size, 11, none⟩ = some (.slice la l.length lc)) := key
 clear key hcs
 have hlow0 := HR.out.below hb0
 have hs0 : w.heap.size < W0.heap.size := lt_some hbox
 have q0 := KEY.out hbox
 go_upto_region 11 with (go_at_call 42; refine (lend_any la lc l W0 hlow0.raw HL.out).mono ?_; rintro e w1 ⟨g, rfl, hg, hrow1, hb1⟩)
 have hbox1 := (hb1.block _ hs0).trans hbox
 have q1 := KEY.out hbox1
 have hb01 := hb0.trans (hb1.mono hb0.size)
 have hs1 : w.heap.size < w1.heap.size := lt_some hbox1
 clear q0 hb1 hbox hb0
 go_upto_region 12 with (go_at_call 43; refine (hullp_any (some ⟨g, 0, none⟩) (l.length + 8) l w1 hrow1.raw).mono ?_; rintro e w2 ⟨v, c, rfl, hA, hown2, hb2⟩)
 have hbox2 := (hb2.block _ hs1).trans hbox1
 have q2 := KEY.out hbox2
 have hrow2 := hrow1.keep (hb2.block g hrow1.lt)
 have hb02 := hb01.trans (hb2.mono hb01.size)
 have hs2 : w.heap.size < w2.heap.size := lt_some hbox2
 have hlow2 := HR.out.below hb02
 have hown2' := own_mono hown2 (show w.heap.size ≤ w1.heap.size by omega)
 obtain ⟨va, vc, rfl⟩ := own_anyW hown2
 clear q1 hb2 hbox1 hrow1 hb01 hown2 hlow0
 go_upto_region 13 with (go_at_call 44; refine (hullr_any la lc l c w2 hlow2.raw hA).mono ?_; rintro e w3 ⟨v3, rfl, hown3, hb3⟩)
 have hbox3 := (hb3.block _ hs2).trans hbox2
 have hrow3 := hrow2.keep (hb3.block g hrow2.lt)
 have hb03 := hb02.trans (hb3.mono hb02.size)
 have hs3 : w.heap.size < w3.heap.size := lt_some hbox3
 have hown23 := own_below hown2' hb3
 have hia := IntsAt.own hown23
 have hib := IntsAt.own hown3
 obtain ⟨va3, vc3, rfl⟩ := own_anyW hown3
 clear q2 hb3 hbox2 hrow2 hb02 hown2' hown3 hlow2
 go_upto_region 14 with (go_at_call 45; refine (sameInts_any _ _ c w3 hia hib hA.le).mono ?_; rintro e w4 ⟨rfl, hb4⟩)
 have hbox4 := (hb4.block _ hs3).trans hbox3
 have hrow4 := hrow3.keep (hb4.block g hrow3.lt)
 have hb04 := hb03.trans (hb4.mono hb03.size)
 have hs4 : w.heap.size < w4.heap.size := lt_some hbox4
 have hown4 := own_below hown23 hb4
 have hB4 := HB.out.1.below hb04
 have hown4' := ownB_mono hown4 (Nat.zero_le _)
 have hcb := hA.le
 have HB2 := HB.out.2
 have hnb : ∀ g, (Value.slice va c.length vc).ownBlock = some g → w.heap.size ≤ g := new_row hown4
 have hzero : ∀ k, w.heap.size ≤ k → tag k = 0 := fun k hk => by
  by_cases h : tag k = 0
  ·exact h
  ·have := HB.out.1.lt k h
   omega
 have HIN : Hid (Calls Tryz.prog 46 #[.pointer (some ⟨WB, 1, none⟩), .slice va c.length vc] w4 fun e w' => e = .returned (.tuple #[]) ∧ Wrote 0 WB v0 tag sh nk (.slice va c.length vc) w4 w') :=
  bints_any WB nk c.length v0 _ tag sh _ w4 hB4 (HB2.1 0 (by decide)).1 (by have := (HB2.1 0 (by decide)).2; omega) (by omega) hown4' (by omega) fun g hg => ⟨hzero g (hnb g hg), by have := hnb g hg; omega⟩
 have HFR : Hid (∀ w5, Wrote 0 WB v0 tag sh nk (.slice va c.length vc) w4 w5 → ∃ tag', Bks w5 WB v0 tag' (N + 1) ∧ Agree w tag tag' ∧ Chg (BkF WB tag) w w5 ∧ w5.heap[w.heap.size]? = some (.cells cs 44 (0, 0)) ∧ RowP w5 g (l ++ marksTo 8) ∧ tag' g = 0) := fun w5 hW => by
  obtain ⟨tag', k1, k2, k3, k4⟩ := hW.after (by decide) HB.out.1 HB2.1 HB2.2 hb04 hnb
  have x1 := (k4 w.heap.size hs4 (Nat.le_refl _) (other_block hown4 hbox4 (by decide))).1
  have x2 := k4 g hrow4.lt (by omega) (other_block hown4 hrow4 (by decide))
  exact ⟨tag', k1, k2, k3, x1.trans hbox4, hrow4.keep x2.1, x2.2⟩
 clear hb4 hbox3 hrow3 hb03 hown23 hown4 hB4 hown4' HB2 hia hib hnb hzero
 go_upto_region 15 with (go_at_call 46; refine HIN.out.mono ?_; rintro e w5 ⟨rfl, hW5⟩)
 obtain ⟨tag5, hB5, hag5, hc5, hbox5, hrow5, htg5⟩ := HFR.out w5 hW5
 have q5 := KEY.out hbox5
 have hlow5 := HR.out.chg hc5 HB.out.1.tW
 have hs5 : w.heap.size < w5.heap.size := lt_some hbox5
 have HB5 : Hid (Bks w5 WB v0 tag5 (N + 1) ∧ Agree w tag tag5 ∧ Chg (BkF WB tag) w w5 ∧ tag5 g = 0) := ⟨hB5, hag5, hc5, htg5⟩
 have hne : ∀ b off, la = some ⟨b, off, none⟩ → l ≠ [] → b ≠ g := fun b off e h0 => by
  rcases HR.out with h | ⟨b', off', e', hlt, _⟩
  ·exact absurd h h0
  ·rw [e] at e'; cases e'; omega
 have HRT := returned_any g (l.length + 8) la lc l w5 hlow5.raw hrow5 hne HL.out
 clear hB5 hag5 hc5 htg5 hW5 hbox4 hbox5 hrow4 hb04 hlow5 hne HFR HIN hs4
 go_upto_region 16 with (go_at_call 47; refine HRT.mono ?_; rintro e w6 ⟨rfl, hg6⟩)
 have hR : StepOk WB v0 N tag w w6 := by
  obtain ⟨h1, h2, h3, h4⟩ := HB5.out
  have hcg : Chg (fun k => k = g) w5 w6 := Chg.of_grown hg6 fun k hk => by cases hk; rfl
  exact ⟨tag5, h1.chg hcg fun k hk _ => .inl (by rw [hk]; exact h4), h2, h3.trans hcg fun k hk e => by omega⟩
 have HRR : Hid (StepOk WB v0 N tag w w6) := hR
 clear hR HRT HB5 hrow5 hg6 q5
 go_wp2_with (go_at_call 39; refine (num_any _ _).mono ?_; rintro e w7 ⟨rfl, rfl⟩)
 go_ret
 exact ⟨rfl, HRR.out⟩
set_option maxHeartbeats 2000000 in
set_option maxRecDepth 100000 in
theorem bjoins_fault (WB N : Nat) (v0 : Value) (tag : Nat → Nat) (n wh ax ay bx by' cx cy dx dy : Int) (la : Option Addr) (l : List Pt) (lc : Nat) (ta : Option Addr) (tn tc : Nat) (s : ByteArray) (w : World) (h : Bks w WB v0 tag N) (hN : N ≤ 925904528800) (hr : ForAt tag w la l) (hl : l.length ≤ 8796093021952) (hf : faultN l ≠ 0) :
  Calls Tryz.prog 20 #[.pointer (some ⟨WB, 0, none⟩), opVal 4 n wh ax ay bx by' cx cy dx dy la l.length lc ta tn tc s] w fun e w' => e = .returned (.bool true) ∧ StepOk WB v0 N tag w w' := by
 obtain ⟨sh, nk, hB, hlen, hnk⟩ := h
 have hWB := hB.ltW
 have HB : Hid (Bk w WB v0 tag sh nk ∧ (∀ j, j < 3 → (sh j).ls.length = (sh j).ms.length ∧ (sh j).ls.length ≤ 4 * N) ∧ nk ≤ 2 * N) := ⟨hB, hlen, hnk⟩
 have HR : Hid (ForAt tag w la l) := hr
 have HL : Hid (l.length ≤ 8796093021952) := hl
 have l20 : (l.length : Int) ≤ 8796093021952 := by omega
 clear hB hlen hnk hr hl
 go_enter Tryz.func20, Tryz.ntmps20
 go_upto_region 1 with fail
 have hb0 : Below w.heap.size w (w.alloc (.cells #[.int .i64 4, .int .i64 n, .int .i64 wh, .int .i64 ax, .int .i64 ay, .int .i64 bx, .int .i64 by', .int .i64 cx, .int .i64 cy, .int .i64 dx, .int .i64 dy, .slice la l.length lc, .slice ta tn tc, .string s] 44)) := below1 _ _
 have hbox : ∃ cs, (w.alloc (.cells #[.int .i64 4, .int .i64 n, .int .i64 wh, .int .i64 ax, .int .i64 ay, .int .i64 bx, .int .i64 by', .int .i64 cx, .int .i64 cy, .int .i64 dx, .int .i64 dy, .slice la l.length lc, .slice ta tn tc, .string s] 44)).heap[w.heap.size]? = some (.cells cs 44 (0, 0)) ∧ cs[11]? = some (.slice la l.length lc) := ⟨_, heap_alloc_new _ _, rfl⟩
 generalize hW0 : w.alloc (.cells #[.int .i64 4, .int .i64 n, .int .i64 wh, .int .i64 ax, .int .i64 ay, .int .i64 bx, .int .i64 by', .int .i64 cx, .int .i64 cy, .int .i64 dx, .int .i64 dy, .slice la l.length lc, .slice ta tn tc, .string s] 44) = W0 at *
 clear hW0
 obtain ⟨cs, hbox, hcs⟩ := hbox
 have key : ∀ {W : World}, W.heap[w.heap.size]? = some (.cells cs 44 (0, 0)) → W.cell? ⟨w.heap.size, 11, none⟩ = some (.slice la l.length lc) := fun {W} hW => by
  simp only [World.cell?, hW]
  simpa using hcs
 have KEY : Hid (∀ {W : World}, W.heap[w.heap.size]? = some (.cells cs 44 (0, 0)) → W.cell? ⟨w.heap.size, 11, none⟩ = some (.slice la l.length lc)) := key
 clear key hcs
 have hlow0 := HR.out.below hb0
 have hs0 : w.heap.size < W0.heap.size := lt_some hbox
 have q0 := KEY.out hbox
 go_upto_region 2 with (go_at_call 42; refine (lend_any la lc l W0 hlow0.raw HL.out).mono ?_; rintro e w1 ⟨g, rfl, hg, hrow1, hb1⟩)
 have hbox1 := (hb1.block _ hs0).trans hbox
 have q1 := KEY.out hbox1
 have hb01 := hb0.trans (hb1.mono hb0.size)
 have hs1 : w.heap.size < w1.heap.size := lt_some hbox1
 clear q0 hb1 hbox hb0
 go_upto_region 3 with (go_at_call 12; refine (triT_any (some ⟨g, 0, none⟩) (l.length + 8) l w1 hrow1.raw).mono ?_; rintro e w2 ⟨v, ts, rfl, hA, hown2, htl, hb2⟩)
 have hbox2 := (hb2.block _ hs1).trans hbox1
 have q2 := KEY.out hbox2
 have hrow2 := hrow1.keep (hb2.block g hrow1.lt)
 have hb02 := hb01.trans (hb2.mono hb01.size)
 have hs2 : w.heap.size < w2.heap.size := lt_some hbox2
 have hlow2 := HR.out.below hb02
 have hown2' := ownB_mono hown2 (show w.heap.size ≤ w1.heap.size by omega)
 clear q1 hb2 hbox1 hrow1 hb01 hown2 hlow0
 have hts : ts = [] := by
  rcases hA with ⟨h, _⟩ | ⟨h, _⟩
  ·exact h
  ·exact absurd h hf
 subst hts
 clear hA
 obtain ⟨va, vc, rfl⟩ := ownS_any hown2'
 go_upto_region 4 with (go_at_call 48; refine (check_any la lc l w2 hlow2.raw).mono ?_; rintro e w3 ⟨rfl, hb3⟩)
 have hbox3 := (hb3.block _ hs2).trans hbox2
 have q3 := KEY.out hbox3
 have hrow3 := hrow2.keep (hb3.block g hrow2.lt)
 have hb03 := hb02.trans (hb3.mono hb02.size)
 have hs3 : w.heap.size < w3.heap.size := lt_some hbox3
 have hown23 := ownB_below hown2' hb3
 have hlow3 := HR.out.below hb03
 clear q2 hb3 hbox2 hrow2 hb02 hown2' hlow2
 have hf' : (faultN l != 0) = true := by simpa using hf
 generalize faultN l = f at *
 go_upto_region 5 with fail
 obtain ⟨w4, hw4⟩ : ∃ w4, w4 = w3 := ⟨_, rfl⟩
 have hb4 : Below w3.heap.size w3 w4 := by rw [hw4]; exact Below.refl _ _
 rw [← hw4]
 clear hw4 hlow3
 have hbox4 := (hb4.block _ hs3).trans hbox3
 have hrow4 := hrow3.keep (hb4.block g hrow3.lt)
 have hb04 := hb03.trans (hb4.mono hb03.size)
 have hs4 : w.heap.size < w4.heap.size := lt_some hbox4
 have hown4 := ownB_below hown23 hb4
 have hB4 := HB.out.1.below hb04
 have hown4' := ownB_mono hown4 (Nat.zero_le _)
 have HB2 := HB.out.2
 have hnb : ∀ g, (Value.slice va ([] : List T3).length vc).ownBlock = some g → w.heap.size ≤ g := new_row hown4
 have hzero : ∀ k, w.heap.size ≤ k → tag k = 0 := fun k hk => by
  by_cases h : tag k = 0
  ·exact h
  ·have := HB.out.1.lt k h
   omega
 have HIN : Hid (Calls Tryz.prog 50 #[.pointer (some ⟨WB, 1, none⟩), .slice va ([] : List T3).length vc] w4 fun e w' => e = .returned (.tuple #[]) ∧ Wrote 1 WB v0 tag sh nk (.slice va ([] : List T3).length vc) w4 w') :=
  btris_any WB nk ([] : List T3).length v0 _ tag sh _ w4 hB4 (HB2.1 1 (by decide)).1 (by have := (HB2.1 1 (by decide)).2; omega) (by omega) hown4' (by simp) fun g hg => ⟨hzero g (hnb g hg), by have := hnb g hg; omega⟩
 have HFR : Hid (∀ w5, Wrote 1 WB v0 tag sh nk (.slice va ([] : List T3).length vc) w4 w5 → ∃ tag', Bks w5 WB v0 tag' (N + 1) ∧ Agree w tag tag' ∧ Chg (BkF WB tag) w w5 ∧ w5.heap[w.heap.size]? = some (.cells cs 44 (0, 0)) ∧ RowP w5 g (l ++ marksTo 8) ∧ tag' g = 0) := fun w5 hW => by
  obtain ⟨tag', k1, k2, k3, k4⟩ := hW.after (by decide) HB.out.1 HB2.1 HB2.2 hb04 hnb
  have x1 := (k4 w.heap.size hs4 (Nat.le_refl _) (other_block hown4 hbox4 (by decide))).1
  have x2 := k4 g hrow4.lt (by omega) (other_block hown4 hrow4 (by decide))
  exact ⟨tag', k1, k2, k3, x1.trans hbox4, hrow4.keep x2.1, x2.2⟩
 clear hb4 hbox3 hrow3 hb03 hown23 hown4 hB4 hown4' HB2 hnb hzero
 go_upto_region 6 with (go_at_call 50; refine HIN.out.mono ?_; rintro e w5 ⟨rfl, hW5⟩)
 obtain ⟨tag5, hB5, hag5, hc5, hbox5, hrow5, htg5⟩ := HFR.out w5 hW5
 have q5 := KEY.out hbox5
 have hlow5 := HR.out.chg hc5 HB.out.1.tW
 have hs5 : w.heap.size < w5.heap.size := lt_some hbox5
 have HB5 : Hid (Bks w5 WB v0 tag5 (N + 1) ∧ Agree w tag tag5 ∧ Chg (BkF WB tag) w w5 ∧ tag5 g = 0) := ⟨hB5, hag5, hc5, htg5⟩
 have hne : ∀ b off, la = some ⟨b, off, none⟩ → l ≠ [] → b ≠ g := fun b off e h0 => by
  rcases HR.out with h | ⟨b', off', e', hlt, _⟩
  ·exact absurd h h0
  ·rw [e] at e'; cases e'; omega
 have HRT := returned_any g (l.length + 8) la lc l w5 hlow5.raw hrow5 hne HL.out
 clear hB5 hag5 hc5 htg5 hW5 hbox4 hbox5 hrow4 hb04 hlow5 hne HFR HIN hs4
 go_upto_region 7 with (go_at_call 47; refine HRT.mono ?_; rintro e w6 ⟨rfl, hg6⟩)
 have hR : StepOk WB v0 N tag w w6 := by
  obtain ⟨h1, h2, h3, h4⟩ := HB5.out
  have hcg : Chg (fun k => k = g) w5 w6 := Chg.of_grown hg6 fun k hk => by cases hk; rfl
  exact ⟨tag5, h1.chg hcg fun k hk _ => .inl (by rw [hk]; exact h4), h2, h3.trans hcg fun k hk e => by omega⟩
 have HRR : Hid (StepOk WB v0 N tag w w6) := hR
 clear hR HRT HB5 hrow5 hg6 q5
 go_wp2_with (go_at_call 39; refine (num_any _ _).mono ?_; rintro e w7 ⟨rfl, rfl⟩)
 go_ret
 exact ⟨rfl, HRR.out⟩
set_option maxHeartbeats 2000000 in
set_option maxRecDepth 100000 in
theorem bjoins_ok (WB N : Nat) (v0 : Value) (tag : Nat → Nat) (n wh ax ay bx by' cx cy dx dy : Int) (la : Option Addr) (l : List Pt) (lc : Nat) (ta : Option Addr) (tn tc : Nat) (s : ByteArray) (w : World) (h : Bks w WB v0 tag N) (hN : N ≤ 925904528800) (hr : ForAt tag w la l) (hl : l.length ≤ 8796093021952) (hf : faultN l = 0) :
  Calls Tryz.prog 20 #[.pointer (some ⟨WB, 0, none⟩), opVal 4 n wh ax ay bx by' cx cy dx dy la l.length lc ta tn tc s] w fun e w' => e = .returned (.bool true) ∧ StepOk WB v0 N tag w w' := by
 obtain ⟨sh, nk, hB, hlen, hnk⟩ := h
 have hWB := hB.ltW
 have HB : Hid (Bk w WB v0 tag sh nk ∧ (∀ j, j < 3 → (sh j).ls.length = (sh j).ms.length ∧ (sh j).ls.length ≤ 4 * N) ∧ nk ≤ 2 * N) := ⟨hB, hlen, hnk⟩
 have HR : Hid (ForAt tag w la l) := hr
 have HL : Hid (l.length ≤ 8796093021952) := hl
 have l20 : (l.length : Int) ≤ 8796093021952 := by omega
 clear hB hlen hnk hr hl
 go_enter Tryz.func20, Tryz.ntmps20
 go_upto_region 1 with fail
 have hb0 : Below w.heap.size w (w.alloc (.cells #[.int .i64 4, .int .i64 n, .int .i64 wh, .int .i64 ax, .int .i64 ay, .int .i64 bx, .int .i64 by', .int .i64 cx, .int .i64 cy, .int .i64 dx, .int .i64 dy, .slice la l.length lc, .slice ta tn tc, .string s] 44)) := below1 _ _
 have hbox : ∃ cs, (w.alloc (.cells #[.int .i64 4, .int .i64 n, .int .i64 wh, .int .i64 ax, .int .i64 ay, .int .i64 bx, .int .i64 by', .int .i64 cx, .int .i64 cy, .int .i64 dx, .int .i64 dy, .slice la l.length lc, .slice ta tn tc, .string s] 44)).heap[w.heap.size]? = some (.cells cs 44 (0, 0)) ∧ cs[11]? = some (.slice la l.length lc) := ⟨_, heap_alloc_new _ _, rfl⟩
 generalize hW0 : w.alloc (.cells #[.int .i64 4, .int .i64 n, .int .i64 wh, .int .i64 ax, .int .i64 ay, .int .i64 bx, .int .i64 by', .int .i64 cx, .int .i64 cy, .int .i64 dx, .int .i64 dy, .slice la l.length lc, .slice ta tn tc, .string s] 44) = W0 at *
 clear hW0
 obtain ⟨cs, hbox, hcs⟩ := hbox
 have key : ∀ {W : World}, W.heap[w.heap.size]? = some (.cells cs 44 (0, 0)) → W.cell? ⟨w.heap.size, 11, none⟩ = some (.slice la l.length lc) := fun {W} hW => by
  simp only [World.cell?, hW]
  simpa using hcs
 have KEY : Hid (∀ {W : World}, W.heap[w.heap.size]? = some (.cells cs 44 (0, 0)) → W.cell? ⟨w.heap.size, 11, none⟩ = some (.slice la l.length lc)) := key
 clear key hcs
 have hlow0 := HR.out.below hb0
 have hs0 : w.heap.size < W0.heap.size := lt_some hbox
 have q0 := KEY.out hbox
 go_upto_region 2 with (go_at_call 42; refine (lend_any la lc l W0 hlow0.raw HL.out).mono ?_; rintro e w1 ⟨g, rfl, hg, hrow1, hb1⟩)
 have hbox1 := (hb1.block _ hs0).trans hbox
 have q1 := KEY.out hbox1
 have hb01 := hb0.trans (hb1.mono hb0.size)
 have hs1 : w.heap.size < w1.heap.size := lt_some hbox1
 clear q0 hb1 hbox hb0
 go_upto_region 3 with (go_at_call 12; refine (triT_any (some ⟨g, 0, none⟩) (l.length + 8) l w1 hrow1.raw).mono ?_; rintro e w2 ⟨v, ts, rfl, hA, hown2, htl, hb2⟩)
 have hbox2 := (hb2.block _ hs1).trans hbox1
 have q2 := KEY.out hbox2
 have hrow2 := hrow1.keep (hb2.block g hrow1.lt)
 have hb02 := hb01.trans (hb2.mono hb01.size)
 have hs2 : w.heap.size < w2.heap.size := lt_some hbox2
 have hlow2 := HR.out.below hb02
 have hown2' := ownB_mono hown2 (show w.heap.size ≤ w1.heap.size by omega)
 clear q1 hb2 hbox1 hrow1 hb01 hown2 hlow0
 have hA' : TriSpec l ts := by
  rcases hA with ⟨_, h⟩ | ⟨_, h⟩
  ·exact absurd hf h
  ·exact h
 have HA : Hid (TriSpec l ts ∧ faultN l = 0) := ⟨hA', hf⟩
 clear hA hA'
 obtain ⟨va, vc, rfl⟩ := ownS_any hown2'
 go_upto_region 4 with (go_at_call 48; refine (check_any la lc l w2 hlow2.raw).mono ?_; rintro e w3 ⟨rfl, hb3⟩)
 have hbox3 := (hb3.block _ hs2).trans hbox2
 have q3 := KEY.out hbox3
 have hrow3 := hrow2.keep (hb3.block g hrow2.lt)
 have hb03 := hb02.trans (hb3.mono hb02.size)
 have hs3 : w.heap.size < w3.heap.size := lt_some hbox3
 have hown23 := ownB_below hown2' hb3
 have hlow3 := HR.out.below hb03
 clear q2 hb3 hbox2 hrow2 hb02 hown2' hlow2
 have HIS := isr_any la lc _ l ts _ w3 hlow3.raw hf HA.out.1 hown23 htl
 go_upto_region 5 with (go_at_call 49; refine HIS.mono ?_; rintro e w4 ⟨rfl, hb4⟩)
 clear HIS hlow3
 have hbox4 := (hb4.block _ hs3).trans hbox3
 have hrow4 := hrow3.keep (hb4.block g hrow3.lt)
 have hb04 := hb03.trans (hb4.mono hb03.size)
 have hs4 : w.heap.size < w4.heap.size := lt_some hbox4
 have hown4 := ownB_below hown23 hb4
 have hB4 := HB.out.1.below hb04
 have hown4' := ownB_mono hown4 (Nat.zero_le _)
 have HB2 := HB.out.2
 have hnb : ∀ g, (Value.slice va ts.length vc).ownBlock = some g → w.heap.size ≤ g := new_row hown4
 have hzero : ∀ k, w.heap.size ≤ k → tag k = 0 := fun k hk => by
  by_cases h : tag k = 0
  ·exact h
  ·have := HB.out.1.lt k h
   omega
 have HIN : Hid (Calls Tryz.prog 50 #[.pointer (some ⟨WB, 1, none⟩), .slice va ts.length vc] w4 fun e w' => e = .returned (.tuple #[]) ∧ Wrote 1 WB v0 tag sh nk (.slice va ts.length vc) w4 w') :=
  btris_any WB nk ts.length v0 _ tag sh _ w4 hB4 (HB2.1 1 (by decide)).1 (by have := (HB2.1 1 (by decide)).2; omega) (by omega) hown4' (by omega) fun g hg => ⟨hzero g (hnb g hg), by have := hnb g hg; omega⟩
 have HFR : Hid (∀ w5, Wrote 1 WB v0 tag sh nk (.slice va ts.length vc) w4 w5 → ∃ tag', Bks w5 WB v0 tag' (N + 1) ∧ Agree w tag tag' ∧ Chg (BkF WB tag) w w5 ∧ w5.heap[w.heap.size]? = some (.cells cs 44 (0, 0)) ∧ RowP w5 g (l ++ marksTo 8) ∧ tag' g = 0) := fun w5 hW => by
  obtain ⟨tag', k1, k2, k3, k4⟩ := hW.after (by decide) HB.out.1 HB2.1 HB2.2 hb04 hnb
  have x1 := (k4 w.heap.size hs4 (Nat.le_refl _) (other_block hown4 hbox4 (by decide))).1
  have x2 := k4 g hrow4.lt (by omega) (other_block hown4 hrow4 (by decide))
  exact ⟨tag', k1, k2, k3, x1.trans hbox4, hrow4.keep x2.1, x2.2⟩
 clear hb4 hbox3 hrow3 hb03 hown23 hown4 hB4 hown4' HB2 hnb hzero
 go_upto_region 6 with (go_at_call 50; refine HIN.out.mono ?_; rintro e w5 ⟨rfl, hW5⟩)
 obtain ⟨tag5, hB5, hag5, hc5, hbox5, hrow5, htg5⟩ := HFR.out w5 hW5
 have q5 := KEY.out hbox5
 have hlow5 := HR.out.chg hc5 HB.out.1.tW
 have hs5 : w.heap.size < w5.heap.size := lt_some hbox5
 have HB5 : Hid (Bks w5 WB v0 tag5 (N + 1) ∧ Agree w tag tag5 ∧ Chg (BkF WB tag) w w5 ∧ tag5 g = 0) := ⟨hB5, hag5, hc5, htg5⟩
 have hne : ∀ b off, la = some ⟨b, off, none⟩ → l ≠ [] → b ≠ g := fun b off e h0 => by
  rcases HR.out with h | ⟨b', off', e', hlt, _⟩
  ·exact absurd h h0
  ·rw [e] at e'; cases e'; omega
 have HRT := returned_any g (l.length + 8) la lc l w5 hlow5.raw hrow5 hne HL.out
 clear hB5 hag5 hc5 htg5 hW5 hbox4 hbox5 hrow4 hb04 hlow5 hne HFR HIN hs4
 go_upto_region 7 with (go_at_call 47; refine HRT.mono ?_; rintro e w6 ⟨rfl, hg6⟩)
 have hR : StepOk WB v0 N tag w w6 := by
  obtain ⟨h1, h2, h3, h4⟩ := HB5.out
  have hcg : Chg (fun k => k = g) w5 w6 := Chg.of_grown hg6 fun k hk => by cases hk; rfl
  exact ⟨tag5, h1.chg hcg fun k hk _ => .inl (by rw [hk]; exact h4), h2, h3.trans hcg fun k hk e => by omega⟩
 have HRR : Hid (StepOk WB v0 N tag w w6) := hR
 clear hR HRT HB5 hrow5 hg6 q5
 go_wp2_with (go_at_call 39; refine (num_any _ _).mono ?_; rintro e w7 ⟨rfl, rfl⟩)
 go_ret
 exact ⟨rfl, HRR.out⟩
theorem bjoins_any (WB N : Nat) (v0 : Value) (tag : Nat → Nat) (n wh ax ay bx by' cx cy dx dy : Int) (la : Option Addr) (l : List Pt) (lc : Nat) (ta : Option Addr) (tn tc : Nat) (s : ByteArray) (w : World) (h : Bks w WB v0 tag N) (hN : N ≤ 925904528800) (hr : ForAt tag w la l) (hl : l.length ≤ 8796093021952) :
  Calls Tryz.prog 20 #[.pointer (some ⟨WB, 0, none⟩), opVal 4 n wh ax ay bx by' cx cy dx dy la l.length lc ta tn tc s] w fun e w' => e = .returned (.bool true) ∧ StepOk WB v0 N tag w w' := by
 by_cases hf : faultN l = 0
 ·exact bjoins_ok WB N v0 tag n wh ax ay bx by' cx cy dx dy la l lc ta tn tc s w h hN hr hl hf
 ·exact bjoins_fault WB N v0 tag n wh ax ay bx by' cx cy dx dy la l lc ta tn tc s w h hN hr hl hf
end Go.Proofs.YtgpapegpdfonpaaGreatDoor
