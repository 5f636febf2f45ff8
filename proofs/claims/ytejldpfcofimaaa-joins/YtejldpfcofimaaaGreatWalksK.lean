/-
  trigonkeep.cloud: sixty points at most, none twice.
-/
import Derived.Test.YtejldpfcofimaaaGreatWalksJ
namespace Go.Proofs.YtejldpfcofimaaaGreat
set_option linter.unusedVariables false
set_option linter.unusedSimpArgs false
open Go.RowKit
attribute [local go_sem ↓] Go.wp_at_zero Go.wp_at_succ

/-- a list's points as cells, one behind the other -/
def cellsP (l : List Pt) : List Value := l.flatMap fun p => [.int .i64 p.1, .int .i64 p.2]
theorem cellsP_len (l : List Pt) : (cellsP l).length = l.length * 2 := by
  induction l with
  | nil => rfl
  | cons p l ih => simp only [cellsP, List.flatMap_cons, List.length_append, List.length_cons, List.length_nil] at ih ⊢; omega
theorem cellsP_append (l m : List Pt) : cellsP (l ++ m) = cellsP l ++ cellsP m := by simp [cellsP]
theorem cellsP_get (l : List Pt) : ∀ j, j < l.length → (cellsP l)[j * 2]? = some (.int .i64 (l.getD j (0, 0)).1) ∧ (cellsP l)[j * 2 + 1]? = some (.int .i64 (l.getD j (0, 0)).2) := by
  induction l with
  | nil => intro j h; simp at h
  | cons p l ih =>
    intro j h
    have e : cellsP (p :: l) = .int .i64 p.1 :: .int .i64 p.2 :: cellsP l := by simp [cellsP]
    rw [e]
    match j with
    | 0 => simp
    | j + 1 =>
      have := ih j (by simpa using h)
      rw [show (j + 1) * 2 = j * 2 + 1 + 1 by omega]
      simpa using this
theorem cellsP_one (l : List Pt) : ∀ u ∈ cellsP l, u.oneCell' = true := by
  intro u hu
  simp only [cellsP, List.mem_flatMap] at hu
  obtain ⟨p, _, hu⟩ := hu
  simp at hu
  rcases hu with rfl | rfl <;> rfl

/-- points of one's own -/
abbrev OwnP (w : World) (base : Nat) (v : Value) (l : List Pt) : Prop := w.ownsRow base 37 2 v l.length (cellsP l)

theorem OwnP.pts {w : World} {base g n cap : Nat} {l : List Pt} (h : OwnP w base (.slice (some ⟨g, 0, none⟩) n cap) l) : PtsAt w g 0 l := by
  obtain ⟨hl, hn⟩ := h
  rcases hn with ⟨hn, _⟩ | ⟨g', cap', cur, hv, hg, hh, h1, h2, h3, h4⟩
  · cases hn
  · cases hv
    have key : ∀ j u, (cellsP l)[j]? = some u → w.cell? ⟨g, j, none⟩ = some u := by
      intro j u hj
      have : cur[j]? = some u := by
        rw [← h4, List.getElem?_take] at hj
        split at hj
        · simpa using hj
        · cases hj
      simp [World.cell?, hh, this]
    intro j hj
    obtain ⟨a, b⟩ := cellsP_get l j hj
    rw [Nat.zero_add]
    exact ⟨key _ _ a, key _ _ b⟩
theorem OwnP.lt {w : World} {base g n cap : Nat} {l : List Pt} (h : OwnP w base (.slice (some ⟨g, 0, none⟩) n cap) l) : g < w.heap.size ∧ base ≤ g ∧ n ≤ cap ∧ cap ≤ maxLen ∧ n = l.length := by
  obtain ⟨hl, hn⟩ := h
  rcases hn with ⟨hn, _⟩ | ⟨g', cap', cur, hv, hg, hh, h1, h2, h3, h4⟩
  · cases hn
  · cases hv
    exact ⟨(Array.getElem?_eq_some_iff.1 hh).1, hg, h1, h2, rfl⟩
theorem OwnP.shape {w : World} {base : Nat} {v : Value} {l : List Pt} (h : OwnP w base v l) : (v = .slice none 0 0 ∧ l = []) ∨ ∃ g cap, v = .slice (some ⟨g, 0, none⟩) l.length cap := by
  obtain ⟨hl, hn⟩ := h
  rcases hn with ⟨hn, h0⟩ | ⟨g', cap', cur, hv, hg, hh, h1, h2, h3, h4⟩
  · exact .inl ⟨hn, List.length_eq_zero_iff.1 h0⟩
  · exact .inr ⟨g', cap', hv⟩
theorem OwnP.any {w : World} {base : Nat} {v : Value} {l : List Pt} (h : OwnP w base v l) : ∃ va vc, v = .slice va l.length vc := by
  rcases OwnP.shape h with ⟨rfl, rfl⟩ | ⟨g, gc, rfl⟩
  · exact ⟨none, 0, rfl⟩
  · exact ⟨_, _, rfl⟩
theorem OwnP.below {w w' : World} {base : Nat} {v : Value} {l : List Pt} (h : OwnP w base v l) (hb : Below w.heap.size w w') : OwnP w' base v l := by
  obtain ⟨hl, hn⟩ := h
  refine ⟨hl, ?_⟩
  rcases hn with hn | ⟨g', cap', cur, hv, hg, hh, r⟩
  · exact .inl hn
  · refine .inr ⟨g', cap', cur, hv, hg, ?_, r⟩
    rw [hb.block g' (Array.getElem?_eq_some_iff.1 hh).1]; exact hh
theorem OwnP.mono {w : World} {a b : Nat} {v : Value} {l : List Pt} (h : OwnP w a v l) (hb : b ≤ a) : OwnP w b v l := by
  obtain ⟨hl, hn⟩ := h
  refine ⟨hl, ?_⟩
  rcases hn with hn | ⟨g', cap', cur, hv, hg, r⟩
  · exact .inl hn
  · exact .inr ⟨g', cap', cur, hv, by omega, r⟩
theorem OwnP.grown {w w' : World} {base : Nat} {v v' : Value} {l l' : List Pt} {o : Obj} {W : World} (h : OwnP w base v l) (hnx : Below base W w) (hg : (w.alloc o).grownBy w' v.ownBlock) (hB : base ≤ w.heap.size) : Below base W w' := by
  refine (hnx.alloc hB o).grown hg (by simp; omega) fun k hk => ?_
  rcases OwnP.shape h with ⟨rfl, _⟩ | ⟨g, cap, rfl⟩
  · cases hk
  · cases hk
    exact (OwnP.lt h).2.1

theorem infoPt : (Tryz.prog.info? 37).map (fun i => (i.zero, i.size, i.bytes)) = some (some (.agg #[.int .i64 0, .int .i64 0]), 2, 16) := by kernel_rfl

theorem mem_take_succ (l : List Pt) (n : Nat) (h : n < l.length) (p : Pt) : decide (p ∈ l.take (n + 1)) = (decide (p ∈ l.take n) || decide (p = l[n])) := by
  have k : p ∈ l.take (n + 1) ↔ p ∈ l.take n ∨ p = l[n] := by rw [List.take_succ_eq_append_getElem h, List.mem_append, List.mem_singleton]
  by_cases h1 : p ∈ l.take n
  · rw [decide_eq_true (k.2 (.inl h1)), decide_eq_true h1]; rfl
  · by_cases h2 : p = l[n]
    · rw [decide_eq_true (k.2 (.inr h2)), decide_eq_true h2, Bool.or_true]
    · rw [decide_eq_false (fun x => (k.1 x).elim h1 h2), decide_eq_false h1, decide_eq_false h2]; rfl

/-- raw points: a slice of them -/
def RawAt (w : World) (a : Option Addr) (rs : List Pt) : Prop :=
  rs = [] ∨ ∃ b off, a = some ⟨b, off, none⟩ ∧ b < w.heap.size ∧ PtsAt w b off rs
def Fits (rs : List Pt) : Prop := ∀ p ∈ rs, (-9223372036854775808 ≤ p.1 ∧ p.1 ≤ 9223372036854775807) ∧ (-9223372036854775808 ≤ p.2 ∧ p.2 ≤ 9223372036854775807)

theorem near_of_mem {l : List Pt} (h : ∀ p ∈ l, Near p.1 p.2) : AllNear l := by
  intro i hi
  have := h l[i] (List.getElem_mem hi)
  have e1 : px l i = l[i].1 := by simp [px, hi]
  have e2 : py l i = l[i].2 := by simp [py, hi]
  rw [e1, e2]; exact this

end Go.Proofs.YtejldpfcofimaaaGreat
