/-
  All that the statement asks of a place: as facts (mathematics alone).
-/
import Derived.Test.YtgpapegpdfonpaaGreatNetJL
import Derived.Test.YtgpapegpdfonpaaGreatPtsX
import Derived.Test.YtgpapegpdfonpaaGreatPtsO
namespace Go.Proofs.YtgpapegpdfonpaaGreat
set_option linter.unusedVariables false
set_option linter.unusedSimpArgs false
open Go.RowKit

def hereB (l : List Pt) (p : Pt) : Nat → Bool
  | 0 => false
  | k + 1 => hereB l p k || decide (ptAt l k = p)
def segB (p A B : Pt) : Bool := decide (sd A B p = 0) && decide (dt A B p < 0)
def rowB' (l : List Pt) (p : Pt) (k : Nat) : Nat → Bool
  | 0 => false
  | j + 1 => rowB' l p k j || segB p (ptAt l j) (ptAt l k)
def btwB (l : List Pt) (p : Pt) : Nat → Bool
  | 0 => false
  | k + 1 => btwB l p k || rowB' l p k k
theorem hereB_iff {l : List Pt} {p : Pt} : ∀ k, hereB l p k = true ↔ ∃ j, j < k ∧ ptAt l j = p
  | 0 => by simp [hereB]
  | k + 1 => by
    simp only [hereB, Bool.or_eq_true, decide_eq_true_eq, hereB_iff k]
    constructor
    · rintro (⟨j, hj, e⟩ | e)
      · exact ⟨j, by omega, e⟩
      · exact ⟨k, by omega, e⟩
    · rintro ⟨j, hj, e⟩
      by_cases h : j = k
      · subst h; exact .inr e
      · exact .inl ⟨j, by omega, e⟩
theorem segB_iff {p A B : Pt} : segB p A B = true ↔ onSeg p A B := by
  unfold segB onSeg
  simp
theorem rowB_iff {l : List Pt} {p : Pt} {k : Nat} : ∀ j, rowB' l p k j = true ↔ ∃ i, i < j ∧ onSeg p (ptAt l i) (ptAt l k)
  | 0 => by simp [rowB']
  | j + 1 => by
    simp only [rowB', Bool.or_eq_true, segB_iff, rowB_iff j]
    constructor
    · rintro (⟨i, hi, e⟩ | e)
      · exact ⟨i, by omega, e⟩
      · exact ⟨j, by omega, e⟩
    · rintro ⟨i, hi, e⟩
      by_cases h : i = j
      · subst h; exact .inr e
      · exact .inl ⟨i, by omega, e⟩
theorem btwB_iff {l : List Pt} {p : Pt} : ∀ k, btwB l p k = true ↔ ∃ i j, i < j ∧ j < k ∧ onSeg p (ptAt l i) (ptAt l j)
  | 0 => by simp [btwB]
  | k + 1 => by
    simp only [btwB, Bool.or_eq_true, btwB_iff k, rowB_iff]
    constructor
    · rintro (⟨i, j, h1, h2, e⟩ | ⟨i, hi, e⟩)
      · exact ⟨i, j, h1, by omega, e⟩
      · exact ⟨i, k, hi, by omega, e⟩
    · rintro ⟨i, j, h1, h2, e⟩
      by_cases h : j = k
      · subst h; exact .inr ⟨i, h1, e⟩
      · exact .inl ⟨i, j, h1, by omega, e⟩

structure AskF (l : List Pt) (ns : List Int) (ts : List T3) (p : Pt) (n : Int) (m : Nat) (k a b c : Int) : Prop where
  hm : m < l.length
  best : ∀ j, j < l.length → ¬ dst (ptAt l j) p < dst (ptAt l m) p
  tie : ∀ j, j < l.length → dst (ptAt l j) p = dst (ptAt l m) p → ¬ ns.getD j 0 < n
  here : hereB l p l.length = true → k = 3
  inn : ∀ t ∈ ts, inB l p t = true → k = 1 ∧ a = ns.getD t.1.toNat 0 ∧ b = ns.getD t.2.1.toNat 0 ∧ c = ns.getD t.2.2.toNat 0
  cnt : ts.countP (inB l p) ≤ 1
  on : hereB l p l.length = false → ts.countP (rimB l p) ≠ 0 → k = 2 ∧ ∃ x y : Nat, x < y ∧ y < l.length ∧ a = ns.getD x 0 ∧ b = ns.getD y 0 ∧ c = -1 ∧ onSeg p (ptAt l x) (ptAt l y)
  line : hereB l p l.length = false → ts = [] → btwB l p l.length = true → k = 2 ∧ ∃ x y : Nat, x < y ∧ y < l.length ∧ a = ns.getD x 0 ∧ b = ns.getD y 0 ∧ c = -1 ∧ onSeg p (ptAt l x) (ptAt l y)
  els : hereB l p l.length = false → ts.countP (inB l p) = 0 → ts.countP (rimB l p) = 0 → (ts = [] → btwB l p l.length = false) → k = 0 ∧ a = -1 ∧ b = -1 ∧ c = -1
theorem numO_pos' {ns : List Int} {j : Nat} : numO ns (j : Int) = ns.getD j 0 := by
  unfold numO; rw [if_pos (by omega)]; simp
theorem numO_neg1 {ns : List Int} : numO ns (-1) = -1 := rfl
theorem t3lt_irr (t : T3) : ¬ t3lt t t := by
  unfold t3lt; grind
theorem good_nodup {l : List Pt} {ts : List T3} (hG : GoodT l ts) : ts.Nodup := by
  rcases hG.2 with ⟨_, rfl⟩ | ⟨_, h, _⟩
  · exact List.nodup_nil
  · exact h.srt.imp (fun {s t} (h : t3lt s t) (e : s = t) => t3lt_irr t (by rw [e] at h; exact h))
theorem countP_one {α : Type} [DecidableEq α] {q : α → Bool} {t0 : α} : ∀ {ts : List α}, ts.Nodup → (∀ t ∈ ts, q t = true → t = t0) → ts.countP q ≤ 1
  | [], _, _ => by simp
  | t :: r, hn, h => by
    have hn' := List.nodup_cons.1 hn
    by_cases hq : q t = true
    · rw [List.countP_cons_of_pos hq]
      have h0 : r.countP q = 0 := List.countP_eq_zero.2 fun u hu hu' => by
        have e1 := h t (by simp) hq
        have e2 := h u (by simp [hu]) hu'
        exact hn'.1 (by rw [e1, ← e2]; exact hu)
      omega
    · rw [List.countP_cons_of_neg hq]
      exact countP_one hn'.2 fun u hu => h u (by simp [hu])
theorem ord61 (w : World) (l : List Pt) (h0 : l ≠ []) (hl : l.length ≤ 61) : ∃ is, InOrder l is := by
  obtain ⟨n, hn'⟩ : ∃ n, l.length = n + 1 := ⟨l.length - 1, by have := List.length_pos_iff.2 h0; omega⟩
  obtain ⟨_, w2, _, ⟨g, is, _, _, _, _, _, _, hio⟩, _⟩ := order_any61 w.heap.size 0 l.length l n (w.alloc (.cells (cellsP l).toArray 32)) hn' hl (by simp) (ptsAt_alloc w l) []
  exact ⟨is, hio⟩
theorem LocP.num {l : List Pt} {ts : List T3} {p : Pt} {ns : List Int} {k a' b' c' : Int} (h : EdgeP l p k a' b' c') : k = 2 ∧ ∃ x y : Nat, x < y ∧ y < l.length ∧ numO ns a' = ns.getD x 0 ∧ numO ns b' = ns.getD y 0 ∧ numO ns c' = -1 ∧ onSeg p (ptAt l x) (ptAt l y) := by
  obtain ⟨h1, h2, x, y, e1, e2, h3, h4, h5⟩ := h
  refine ⟨h1, x, y, h3, h4, ?_, ?_, ?_, h5⟩
  · rw [e1]; exact numO_pos'
  · rw [e2]; exact numO_pos'
  · rw [h2]; rfl
theorem askF (w : World) {l : List Pt} {ns : List Int} {ever : Nat} {ts : List T3} {p : Pt} {k a' b' c' : Int} (hOk : MOk l ns ever) (hne : l ≠ []) (hp : Near p.1 p.2) (hG : GoodT l ts) (hL : LocP l ts (allJ l ts (flB l) l.length) p k a' b' c') :
    ∃ m : Nat, bestW l p l.length = (m : Int) ∧ AskF l ns ts p (ns.getD m 0) m k (numO ns a') (numO ns b') (numO ns c') := by
  have hpos := List.length_pos_iff.2 hne
  obtain ⟨m, e, hm, h1, h2⟩ := bestW_min hOk.near hp l.length hpos (Nat.le_refl _)
  have hno : hereB l p l.length = false → ∀ i, i < l.length → ptAt l i ≠ p := fun h i hi e => by
    rw [(hereB_iff _).2 ⟨i, hi, e⟩] at h; cases h
  have hin : ∀ t ∈ ts, inB l p t = true → k = 1 ∧ a' = t.1 ∧ b' = t.2.1 ∧ c' = t.2.2 := fun t ht hh => loc_in hOk.nd hG hL ht (inB_iff.1 hh)
  have htr : ∀ t ∈ ts, 0 ≤ t.1 ∧ 0 ≤ t.2.1 ∧ 0 ≤ t.2.2 := fun t ht => by
    obtain ⟨_, F, _⟩ := hG.tri ht
    have := (F.tri t ht).1
    omega
  refine ⟨m, e, ⟨hm, fun j hj => by have := h1 j hj; omega, fun j hj ej hlt => ?_, fun hh => ?_, fun t ht hh => ?_, ?_, fun hh hc => ?_, fun hh ht hb => ?_, fun hh hi ho hb => ?_⟩⟩
  · have hjm : ¬ j < m := fun hlt => by have := h2 j hlt; omega
    by_cases hjm' : j = m
    · subst hjm'; omega
    · have ej' : ns.getD j 0 = ns[j]'(by rw [← hOk.len]; exact hj) := by simp [show j < ns.length by rw [← hOk.len]; exact hj]
      have em' : ns.getD m 0 = ns[m]'(by rw [← hOk.len]; exact hm) := by simp [show m < ns.length by rw [← hOk.len]; exact hm]
      have := (List.pairwise_iff_getElem.1 hOk.inc) m j (by rw [← hOk.len]; exact hm) (by rw [← hOk.len]; exact hj) (by omega)
      omega
  · obtain ⟨i, hi, e⟩ := (hereB_iff _).1 hh
    exact (loc_here hG hOk.nd hL hi e).1
  · obtain ⟨r1, r2, r3, r4⟩ := hin t ht hh
    obtain ⟨z1, z2, z3⟩ := htr t ht
    refine ⟨r1, ?_, ?_, ?_⟩
    · rw [r2]; unfold numO; rw [if_pos z1]
    · rw [r3]; unfold numO; rw [if_pos z2]
    · rw [r4]; unfold numO; rw [if_pos z3]
  · exact countP_one (t0 := (a', b', c')) (good_nodup hG) fun t ht hh => by
      obtain ⟨_, r2, r3, r4⟩ := hin t ht hh
      rw [r2, r3, r4]
  · obtain ⟨t, ht, hr⟩ := List.countP_pos_iff.1 (show 0 < ts.countP (rimB l p) by omega)
    exact LocP.num (ts := ts) (loc_on hOk.nd hG (hno hh) hL ht hr)
  · subst ht
    obtain ⟨i, j, hij, hj, hs⟩ := (btwB_iff _).1 hb
    have hf : FlatP l := by
      rcases hG.2 with ⟨hf, _⟩ | ⟨_, _, _, h⟩
      · exact hf
      · exact absurd rfl h
    have hn : (l ++ [p]).Nodup := List.nodup_append.2 ⟨hOk.nd, by simp, fun x hx y hy => by
      simp only [List.mem_singleton] at hy
      subst hy
      rintro rfl
      obtain ⟨i, hi, e⟩ := List.getElem_of_mem hx
      exact hno hh i hi (by unfold ptAt px py; simp [hi, e])⟩
    obtain ⟨is, hio⟩ := ord61 w (l ++ [p]) (by simp) (by have := hOk.le; simp; omega)
    exact LocP.num (ts := []) (loc_line hOk.nd hn hio hf hL (by omega) hj hs)
  · have hi' := List.countP_eq_zero.1 hi
    have ho' := List.countP_eq_zero.1 ho
    obtain ⟨r1, r2, r3, r4⟩ := loc_else hG (hno hh) (fun t ht => by simpa using hi' t ht) (fun t ht => by simpa using ho' t ht) (fun h0 x y hx hy hxy hs => by
      have := hb h0
      rw [(btwB_iff _).2 ⟨x, y, hxy, hy, hs⟩] at this; cases this) hL
    exact ⟨r1, by rw [r2]; rfl, by rw [r3]; rfl, by rw [r4]; rfl⟩
/-- what Locate tells is one -/
theorem LocA.unique {pts : List Pt} {nums : List Int} {ever : Nat} {p : Pt} {k a b c r k2 a2 b2 c2 r2 : Int} (hOk : MOk pts nums ever) (h : LocA pts nums p k a b c r) (h' : LocA pts nums p k2 a2 b2 c2 r2) : k2 = k ∧ a2 = a ∧ b2 = b ∧ c2 = c ∧ r2 = r := by
  rcases h with ⟨f, e1, e2, e3, e4, e5⟩ | ⟨f, e5, ts, x, y, z, hS, hl, hL, e2, e3, e4⟩ <;> rcases h' with ⟨f', e1', e2', e3', e4', e5'⟩ | ⟨f', e5', ts', x', y', z', hS', hl', hL', e2', e3', e4'⟩
  · omega
  · rw [f] at f'; cases f'
  · rw [f] at f'; cases f'
  · have := TriSpec.unique hOk.nd hS' hS
    subst this
    obtain ⟨q1, q2, q3, q4⟩ := loc_one hOk.nd (good_of (fault_ok hOk.le hOk.near hOk.nd) hS hl) hL' hL
    subst q1; subst q2; subst q3; subst q4
    exact ⟨rfl, by rw [e2, e2'], by rw [e3, e3'], by rw [e4, e4'], by omega⟩
end Go.Proofs.YtgpapegpdfonpaaGreat
