/-
  The statement's book, whole: what a step leaves; Triangulate's answer and the document's rules.
-/
import Derived.Test.YtgpapegpdfonpaaGreatDoorBookK
import Derived.Test.YtgpapegpdfonpaaGreatDoorBookT
import Derived.Test.YtgpapegpdfonpaaGreatDoorLawF
import Derived.Test.YtgpapegpdfonpaaGreatDoorRefGH
import Derived.Test.YtgpapegpdfonpaaGreatDoorJoinL
namespace Go.Proofs.YtgpapegpdfonpaaGreatDoor
set_option linter.unusedVariables false
set_option linter.unusedSimpArgs false
open Go.RowKit
attribute [local go_sem ↓] Go.wp_at_zero Go.wp_at_succ

def Bks (w : World) (WB : Nat) (v0 : Value) (tag : Nat → Nat) (N : Nat) : Prop := ∃ sh nk, Bk w WB v0 tag sh nk ∧ (∀ j, j < 3 → (sh j).ls.length = (sh j).ms.length ∧ (sh j).ls.length ≤ 4 * N) ∧ nk ≤ 2 * N
def BkF (WB : Nat) (tag : Nat → Nat) : Nat → Prop := fun k => k = WB ∨ (tag k ≠ 0 ∧ tag k ≤ 3)
/-- what a step that asks no mesh leaves -/
def StepOk (WB : Nat) (v0 : Value) (N : Nat) (tag : Nat → Nat) (w w' : World) : Prop := ∃ tag', Bks w' WB v0 tag' (N + 1) ∧ Agree w tag tag' ∧ Chg (BkF WB tag) w w'
section
variable {w w' w4 w5 : World} {WB N M : Nat} {v0 : Value} {tag : Nat → Nat}
theorem Bks.more (h : Bks w WB v0 tag N) (hm : N ≤ M) : Bks w WB v0 tag M := by
  obtain ⟨sh, nk, h1, h2, h3⟩ := h
  exact ⟨sh, nk, h1, fun j hj => ⟨(h2 j hj).1, by have := (h2 j hj).2; omega⟩, by omega⟩
theorem Bks.below (h : Bks w WB v0 tag N) (hb : Below w.heap.size w w') : Bks w' WB v0 tag N := by
  obtain ⟨sh, nk, h1, h2⟩ := h
  exact ⟨sh, nk, h1.below hb, h2⟩
theorem Bks.chg {F : Nat → Prop} (h : Bks w WB v0 tag N) (hb : Chg F w w') (hF : ∀ k, F k → k < w.heap.size → tag k = 0 ∨ 4 < tag k) : Bks w' WB v0 tag N := by
  obtain ⟨sh, nk, h1, h2⟩ := h
  exact ⟨sh, nk, h1.chg hb hF, h2⟩
theorem Bks.lt (h : Bks w WB v0 tag N) : WB < w.heap.size := by
  obtain ⟨sh, nk, h1, h2⟩ := h
  exact h1.ltW
theorem Bks.low (h : Bks w WB v0 tag N) : ∀ k, k < WB → tag k = 0 := by
  obtain ⟨sh, nk, h1, h2⟩ := h
  exact h1.low
theorem Bks.tlt (h : Bks w WB v0 tag N) : ∀ k, tag k ≠ 0 → k < w.heap.size := by
  obtain ⟨sh, nk, h1, h2⟩ := h
  exact h1.lt
theorem Bks.cell0 (h : Bks w WB v0 tag N) : w.cell? ⟨WB, 0, none⟩ = some v0 := by
  obtain ⟨sh, nk, h1, h2⟩ := h
  exact h1.cells.1
theorem StepOk.of_below (h : Bks w WB v0 tag N) (hb : Below w.heap.size w w') : StepOk WB v0 N tag w w' :=
  ⟨tag, (h.below hb).more (by omega), fun _ _ => rfl, Chg.of_below hb⟩
theorem StepOk.low (h : StepOk WB v0 N tag w w') (hB : Bks w WB v0 tag N) : Below WB w w' := by
  obtain ⟨tag', _, _, hc⟩ := h
  refine hc.below (Nat.le_of_lt hB.lt) fun k hk hF => ?_
  have := hB.low k hk
  rcases hF with hF | ⟨hF, _⟩ <;> omega
theorem StepOk.pre {o : Obj} (h : StepOk WB v0 N tag (w.alloc o) w') : StepOk WB v0 N tag w w' := by
  obtain ⟨tag', h1, h2, h3⟩ := h
  exact ⟨tag', h1, fun k hk => h2 k (by simp; omega), (Chg.of_below (F := BkF WB tag) (below1 w o)).trans h3 fun _ _ h => h⟩
theorem Wrote.after {j nk : Nat} {sh : Nat → Sh} {v : Value} (hW : Wrote j WB v0 tag sh nk v w4 w5) (hj : j < 3) (hB : Bk w WB v0 tag sh nk) (hl : ∀ j, j < 3 → (sh j).ls.length = (sh j).ms.length ∧ (sh j).ls.length ≤ 4 * N) (hnk : nk ≤ 2 * N)
    (hb : Below w.heap.size w w4) (hv : ∀ g, v.ownBlock = some g → w.heap.size ≤ g) :
    ∃ tag', Bks w5 WB v0 tag' (N + 1) ∧ Agree w tag tag' ∧ Chg (BkF WB tag) w w5 ∧ ∀ k, k < w4.heap.size → w.heap.size ≤ k → some k ≠ v.ownBlock → w5.heap[k]? = w4.heap[k]? ∧ tag' k = 0 := by
  obtain ⟨tag', sh', hB', hoth, hl1, hl2, htag, hchg⟩ := hW
  have hW := hB.ltW
  refine ⟨tag', ⟨sh', nk + 1, hB', fun i hi => ?_, by omega⟩, fun k hk => htag k (Nat.lt_of_lt_of_le hk hb.size) fun e => by have := hv k e.symm; omega, (Chg.of_below (F := BkF WB tag) hb).trans hchg fun i hi h => ?_, fun k hk4 hk hne => ?_⟩
  · by_cases e : i = j
    · subst e
      have := hl i hi
      exact ⟨hl1, by omega⟩
    · rw [hoth i e]
      have := hl i hi
      exact ⟨this.1, by omega⟩
  · rcases h with h | h | h
    · exact .inl h
    · exact .inr ⟨by omega, by omega⟩
    · have := hv i h.symm
      omega
  · have h0 : tag k = 0 := by
      by_cases h : tag k = 0
      · exact h
      · have := hB.lt k h
        omega
    exact ⟨hchg.far k hk4 fun h => by rcases h with h | h | h <;> first | omega | exact hne h, by rw [htag k hk4 hne, h0]⟩
end

/-! ### Triangulate -/
def AnsT (l : List Pt) (ts : List T3) : Prop := (ts = [] ∧ faultN l ≠ 0) ∨ (faultN l = 0 ∧ TriSpec l ts)
theorem ownT_none (w : World) (base : Nat) : w.ownsRow base 53 3 (.slice none 0 0) ([] : List T3).length (flatT []) := World.ownsRow_nil _ _ _ _
theorem spec_none : TriSpec [] [] := ⟨[], ⟨by simp, fun i j _ h => by simp at h⟩, .inl ⟨fun j _ h => by simp at h, rfl⟩⟩
theorem triT_any (a : Option Addr) (cap : Nat) (l : List Pt) (w : World) (hr : RawAt w a l) :
    Calls Tryz.prog 12 #[.slice a l.length cap] w fun e w' => ∃ v ts, e = .returned (.tuple #[v, .int .i64 (faultN l)]) ∧ AnsT l ts ∧ w'.ownsRow w.heap.size 53 3 v ts.length (flatT ts) ∧ ts.length ≤ 4000 ∧ Below w.heap.size w w' := by
  by_cases h60 : 60 < l.length
  · refine (triang_many a l.length cap w h60).mono ?_
    rintro e w' ⟨rfl, hb⟩
    have hf : faultN l = 2 := fault_many' h60
    exact ⟨_, [], by rw [hf], .inl ⟨rfl, by rw [hf]; decide⟩, ownT_none _ _, by simp, hb⟩
  · by_cases h0 : l = []
    · subst h0
      refine (triang_none a cap w).mono ?_
      rintro e w' ⟨rfl, hb⟩
      exact ⟨_, [], rfl, .inr ⟨rfl, spec_none⟩, ownT_none _ _, by simp, hb⟩
    · have hlp : 0 < l.length := List.length_pos_iff.2 h0
      rcases hr with hr | ⟨b, off, rfl, hb, hp⟩
      · exact absurd hr h0
      · by_cases hf : faultN l = 0
        · refine (triang_any b off cap l (l.length - 1) w (by omega) hb hp hf).mono ?_
          rintro e w' ⟨v, ts, rfl, ho, hs, hl, hb⟩
          exact ⟨v, ts, by rw [hf], .inr ⟨hf, hs⟩, ho, hl, hb⟩
        · refine (triang_fault b off cap l (l.length - 1) w (by omega) (by omega) hb hp hf).mono ?_
          rintro e w' ⟨rfl, hb⟩
          exact ⟨_, [], rfl, .inl ⟨rfl, hf⟩, ownT_none _ _, by simp, hb⟩

/-! ### the document's rules -/
set_option maxHeartbeats 800000 in
theorem flat_nil (a : Option Addr) (cap : Nat) (w : World) : Calls Tryz.prog 92 #[.slice a 0 cap] w fun e w' => e = .returned (.bool true) ∧ w' = w := by
  go_enter Tryz.func92, Tryz.ntmps92
  go_wp2
  go_loopw [3] (fun i wr => i = .int .i64 2 ∧ wr = w) (fun _ _ => 0)
  case atStart => exact ⟨rfl, rfl⟩
  case round =>
    obtain ⟨rfl, rfl⟩ := hrel
    go_wp2
    go_ret
    exact ⟨rfl, rfl⟩
set_option maxHeartbeats 800000 in
theorem is_flat (a : Option Addr) (n cap : Nat) (ta : Option Addr) (tc : Nat) (w : World) (hF : Calls Tryz.prog 92 #[.slice a n cap] w fun e w' => e = .returned (.bool true) ∧ Below w.heap.size w w') :
    Calls Tryz.prog 49 #[.slice a n cap, .slice ta 0 tc] w fun e w' => e = .returned (.bool true) ∧ Below w.heap.size w w' := by
  go_enter Tryz.func49, Tryz.ntmps49
  go_wp2_with (go_at_call 92; refine hF.mono ?_; rintro e w1 ⟨rfl, hb1⟩)
  go_ret
  exact ⟨rfl, hb1⟩
theorem isr_any (a : Option Addr) (cap base : Nat) (l : List Pt) (ts : List T3) (v : Value) (w : World) (hr : RawAt w a l) (hf : faultN l = 0) (hS : TriSpec l ts) (ho : w.ownsRow base 53 3 v ts.length (flatT ts)) (htl : ts.length ≤ 4000) :
    Calls Tryz.prog 49 #[.slice a l.length cap, v] w fun e w' => e = .returned (.bool true) ∧ Below w.heap.size w w' := by
  obtain ⟨hl, hfar, hnd⟩ := fault_zero hf
  have hnear := near_of_far hfar
  obtain ⟨is, hio, hS⟩ := hS
  by_cases h0 : l = []
  · subst h0
    have hts : ts = [] := by
      rcases hS with ⟨_, h⟩ | ⟨t, p, q, r, BS, _⟩
      · exact h
      · have h1 := BS.off.2.1
        have h2 : is.length = ([] : List Pt).length := hio.len
        rw [List.length_nil] at h2
        omega
    subst hts
    obtain ⟨ta, tc, rfl⟩ := ownS_any ho
    refine is_flat a _ cap ta tc w ((flat_nil a cap w).mono ?_)
    rintro e w' ⟨rfl, rfl⟩
    exact ⟨rfl, Below.refl _ _⟩
  · rcases hr with hr | ⟨b, off, rfl, hb, hp⟩
    · exact absurd hr h0
    · rcases hS with ⟨hall, rfl⟩ | ⟨t, p, q, r, BS, hm, hpw⟩
      · obtain ⟨ta, tc, rfl⟩ := ownS_any ho
        refine is_flat _ _ cap ta tc w ((flat_any b off cap l w hl hnear hb hp).mono ?_)
        rintro e w' ⟨B, rfl, hB, hb'⟩
        have : B = true := hB.2 fun i h2 hi => line_on hio hnd hall (by omega) (by omega) (by omega) hi
        subst this
        exact ⟨rfl, hb'⟩
      · have F := is_ok hio hnd hnear BS hm hpw
        have hne : 0 < ts.length := by
          obtain ⟨x, h1, _⟩ := (fill_ok hio hnd hnear (arr_of hio hnd) (cornersN_nodup hio hnd) BS hm hpw).used 0 (List.length_pos_iff.2 h0)
          exact List.length_pos_of_mem h1
        obtain ⟨ta, tc, rfl⟩ := ownS_any ho
        obtain ⟨g, rfl, hg, _⟩ := ownS_place ho hne
        have hT : TrisAt w g ts := by
          intro j hj
          have f0 := flatT_get ts j 0 (by omega) hj
          have f1 := flatT_get ts j 1 (by omega) hj
          have f2 := flatT_get ts j 2 (by omega) hj
          have eg : ts.getD j (0, 0, 0) = ts[j] := by simp [hj]
          rw [eg]
          refine ⟨?_, ?_, ?_⟩
          · rw [ho.cellAt _ (by omega)]; exact f0
          · rw [ho.cellAt _ (by omega)]; exact f1
          · rw [ho.cellAt _ (by omega)]; exact f2
        exact is_any b off cap g tc l ts w hl hnear hb hp hg hT htl F

end Go.Proofs.YtgpapegpdfonpaaGreatDoor
