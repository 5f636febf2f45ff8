/-
  What fills needs of numbers, and the array of the corners met.
-/
import Derived.Test.YtgpapegpdfonpaaGreatEmptyA
import Derived.Test.YtgpapegpdfonpaaGreatEmptyB
import Derived.Test.YtgpapegpdfonpaaGreatEmptyW
import Derived.Test.YtgpapegpdfonpaaGreatGives
import Derived.Laws.Rows
namespace Go.Proofs.YtgpapegpdfonpaaGreat
set_option linter.unusedVariables false
set_option linter.unusedSimpArgs false
open Go.RowKit

theorem own_zero {w : World} {base : Nat} {e : TypeId} {xs : List Value} {v : Value} (h : w.ownsRow base e 1 v 0 xs) : ∃ ha hc, v = .slice ha 0 hc := by
  rcases own_shape h with ⟨rfl, _⟩ | ⟨g, c, rfl⟩
  · exact ⟨none, 0, rfl⟩
  · exact ⟨_, _, rfl⟩

theorem nats_own {w : World} {base g n cap : Nat} {c : List Nat} (h : w.ownsRow base 3 1 (.slice (some ⟨g, 0, none⟩) n cap) c.length (c.map toV)) : NatsAt w g 0 c := by
  intro j hj
  obtain ⟨hl, hn⟩ := h
  rcases hn with ⟨hn, _⟩ | ⟨g', cap', cur, hv, hg, hh, h1, h2, h3, h4⟩
  · cases hn
  · cases hv
    have : cur[j]? = some (toV (c.getD j 0)) := by
      have e : (List.map toV c)[j]? = some (toV (c.getD j 0)) := by simp [hj]
      rw [← h4, List.getElem?_take] at e
      split at e
      · simpa using e
      · cases e
    simp [World.cell?, hh, this, toV]

/-- on one of the first j edges -/
def onP (l : List Pt) (h : Nat → Pt) (m j k : Nat) : Bool := (List.range j).any fun i => decide (sd (h i) (h ((i + 1) % m)) (ptAt l k) = 0)
theorem onP_zero (l : List Pt) (h : Nat → Pt) (m k : Nat) : onP l h m 0 k = false := rfl
theorem onP_succ (l : List Pt) (h : Nat → Pt) (m j k : Nat) : onP l h m (j + 1) k = (onP l h m j k || decide (sd (h j) (h ((j + 1) % m)) (ptAt l k) = 0)) := by
  unfold onP
  rw [List.range_succ, List.any_append]
  simp
theorem onP_all (l : List Pt) (h : Nat → Pt) (m k : Nat) : onP l h m m k = onB l h m k := rfl

def tval (l : List Pt) (t : T3) : Int := sd (pOf l t.1) (pOf l t.2.1) (pOf l t.2.2)
def psum (l : List Pt) (ts : List T3) (i : Nat) : Int := lsum (tval l) (ts.take i)
theorem psum_succ (l : List Pt) (ts : List T3) (i : Nat) (h : i < ts.length) : psum l ts (i + 1) = psum l ts i + tval l (ts.getD i (0, 0, 0)) := by
  unfold psum
  rw [List.take_succ_eq_append_getElem h, lsum_append]
  have : ts.getD i (0, 0, 0) = ts[i] := by simp [h]
  rw [this]
  simp [lsum]
theorem psum_all (l : List Pt) (ts : List T3) : psum l ts ts.length = lsum (tval l) ts := by unfold psum; rw [List.take_length]

def usedB (ts : List T3) (i k : Nat) : Bool := (ts.take i).any fun t => decide (t.1 = k ∨ t.2.1 = k ∨ t.2.2 = k)
theorem usedB_succ (ts : List T3) (i k : Nat) (h : i < ts.length) : usedB ts (i + 1) k = (usedB ts i k || decide ((ts.getD i (0, 0, 0)).1 = k ∨ (ts.getD i (0, 0, 0)).2.1 = k ∨ (ts.getD i (0, 0, 0)).2.2 = k)) := by
  unfold usedB
  rw [List.take_succ_eq_append_getElem h, List.any_append]
  have : ts.getD i (0, 0, 0) = ts[i] := by simp [h]
  rw [this]
  simp
theorem usedB_all {ts : List T3} {k : Nat} (h : ∃ t ∈ ts, t.1 = k ∨ t.2.1 = k ∨ t.2.2 = k) : usedB ts ts.length k = true := by
  unfold usedB
  rw [List.take_length, List.any_eq_true]
  obtain ⟨t, ht, e⟩ := h
  exact ⟨t, ht, decide_eq_true e⟩

structure UsedAt (w : World) (U : Nat) (ts : List T3) (i : Nat) : Prop where
  at_ : ∃ cur : Array Value, w.heap[U]? = some (.cells cur 67) ∧ cur.size = 60 ∧ ∀ k, k < 60 → cur[k]? = some (.bool (usedB ts i k))
theorem UsedAt.below {w w' : World} {U : Nat} {ts : List T3} {i : Nat} (h : UsedAt w U ts i) (hb : Below w.heap.size w w') : UsedAt w' U ts i := by
  obtain ⟨cur, h1, h2, h3⟩ := h.at_
  exact ⟨cur, (hb.block U (Array.getElem?_eq_some_iff.1 h1).1).trans h1, h2, h3⟩
theorem UsedAt.lt {w : World} {U : Nat} {ts : List T3} {i : Nat} (h : UsedAt w U ts i) : U < w.heap.size := by
  obtain ⟨cur, h1, h2, h3⟩ := h.at_
  exact (Array.getElem?_eq_some_iff.1 h1).1
theorem UsedAt.cell {w : World} {U : Nat} {ts : List T3} {i : Nat} (h : UsedAt w U ts i) {k : Nat} (hk : k < 60) : w.cell? ⟨U, k, none⟩ = some (.bool (usedB ts i k)) ∧ w.frozen? ⟨U, k, none⟩ = false := by
  obtain ⟨cur, h1, h2, h3⟩ := h.at_
  exact ⟨(cell_of_heap h1 k).trans (h3 k hk), frozen_of_heap h1 k⟩
theorem used_new (W : World) (ts : List T3) : UsedAt (W.alloc (.cells #[.bool false, .bool false, .bool false, .bool false, .bool false, .bool false, .bool false, .bool false, .bool false, .bool false, .bool false, .bool false, .bool false, .bool false, .bool false, .bool false, .bool false, .bool false, .bool false, .bool false, .bool false, .bool false, .bool false, .bool false, .bool false, .bool false, .bool false, .bool false, .bool false, .bool false, .bool false, .bool false, .bool false, .bool false, .bool false, .bool false, .bool false, .bool false, .bool false, .bool false, .bool false, .bool false, .bool false, .bool false, .bool false, .bool false, .bool false, .bool false, .bool false, .bool false, .bool false, .bool false, .bool false, .bool false, .bool false, .bool false, .bool false, .bool false, .bool false, .bool false] 67)) W.heap.size ts 0 := by
  refine ⟨Array.replicate 60 (.bool false), ?_, by simp, ?_⟩
  · simp only [World.alloc, Array.getElem?_push_size]
    rfl
  · intro k hk
    rw [Array.getElem?_replicate, if_pos hk]
    rfl
/-- the three stores -/
theorem UsedAt.put {w : World} {U : Nat} {ts : List T3} {i a b c : Nat} (h : UsedAt w U ts i) (hi : i < ts.length) (e : ts.getD i (0, 0, 0) = ((a : Int), (b : Int), (c : Int))) (ha : a < 60) (hb : b < 60) (hc : c < 60) :
    ∃ V1 V2 V3, w.setCell ⟨U, a, none⟩ (.bool true) = V1 ∧ V1.setCell ⟨U, b, none⟩ (.bool true) = V2 ∧ V2.setCell ⟨U, c, none⟩ (.bool true) = V3 ∧ w.cell? ⟨U, a, none⟩ = some (.bool (usedB ts i a)) ∧ w.frozen? ⟨U, a, none⟩ = false ∧
      (∃ v, V1.cell? ⟨U, b, none⟩ = some v) ∧ V1.frozen? ⟨U, b, none⟩ = false ∧ (∃ v, V2.cell? ⟨U, c, none⟩ = some v) ∧ V2.frozen? ⟨U, c, none⟩ = false ∧ UsedAt V3 U ts (i + 1) ∧ V3.heap.size = w.heap.size ∧ (∀ N, N ≤ U → Below N w V3) ∧ (∀ b o, b ≠ U → V3.cell? ⟨b, o, none⟩ = w.cell? ⟨b, o, none⟩) := by
  obtain ⟨cur, h1, h2, h3⟩ := h.at_
  have k1 := heap_setCell_same w U a cur 67 (.bool true) h1
  have k2 := heap_setCell_same _ U b _ 67 (.bool true) k1
  have k3 := heap_setCell_same _ U c _ 67 (.bool true) k2
  refine ⟨_, _, _, rfl, rfl, rfl, (cell_of_heap h1 a).trans (h3 a ha), frozen_of_heap h1 a, ⟨_, (cell_of_heap k1 b).trans (Array.getElem?_eq_getElem (by simp; omega))⟩, frozen_of_heap k1 b, ⟨_, (cell_of_heap k2 c).trans (Array.getElem?_eq_getElem (by simp; omega))⟩, frozen_of_heap k2 c, ⟨_, k3, by simp [h2], ?_⟩, by simp [World.setCell], ?_, ?_⟩
  · intro k hk
    rw [usedB_succ ts i k hi, e]
    simp only [Array.getElem?_setIfInBounds]
    have h3k := h3 k hk
    by_cases e1 : c = k
    · subst e1; simp; omega
    · by_cases e2 : b = k
      · subst e2; simp [e1]; omega
      · by_cases e3 : a = k
        · subst e3; simp [e1, e2]; omega
        · have q1 : ¬ ((a : Int) = k ∨ (b : Int) = k ∨ (c : Int) = k) := by omega
          rw [if_neg (by omega), if_neg (by omega), if_neg (by omega), h3k, decide_eq_false q1, Bool.or_false]
  · intro N hN
    exact (((Below.refl _ _).setCell (p := ⟨U, a, none⟩) hN _).setCell (p := ⟨U, b, none⟩) hN _).setCell (p := ⟨U, c, none⟩) hN _
  · intro x o hx
    have q : ∀ (W : World) (j : Nat), (W.setCell ⟨U, j, none⟩ (.bool true)).heap[x]? = W.heap[x]? := fun W j => heap_setCell_other _ _ _ _ hx
    unfold World.cell?
    rw [q, q, q]

theorem tri_at {l : List Pt} {h : Nat → Pt} {m : Nat} {ts : List T3} (F : FillOk l h m ts) {i : Nat} (hi : i < ts.length) :
    ∃ a b c : Nat, ts.getD i (0, 0, 0) = ((a : Int), (b : Int), (c : Int)) ∧ a < b ∧ a < c ∧ b < l.length ∧ c < l.length ∧ 0 < sd (ptAt l a) (ptAt l b) (ptAt l c) ∧ (∀ d, d < l.length → cc (ptAt l a) (ptAt l b) (ptAt l c) (ptAt l d) ≤ 0) := by
  have e : ts.getD i (0, 0, 0) = ts[i] := by simp [hi]
  rw [e]
  obtain ⟨⟨h0, h1, h2, h3, h4⟩, h5, h6⟩ := F.tri _ (List.getElem_mem hi)
  generalize ts[i] = t at *
  obtain ⟨x, y, z⟩ := t
  dsimp only at *
  refine ⟨x.toNat, y.toNat, z.toNat, ?_, by omega, by omega, by omega, by omega, h5, h6⟩
  rw [Int.toNat_of_nonneg h0, Int.toNat_of_nonneg (by omega), Int.toNat_of_nonneg (by omega)]

theorem psum_bd {l : List Pt} {h : Nat → Pt} {m : Nat} {ts : List T3} (F : FillOk l h m ts) (hn : AllNear l) : ∀ i, i ≤ ts.length → 0 ≤ psum l ts i ∧ psum l ts i ≤ 512000000 * (i : Int) := by
  intro i
  induction i with
  | zero => intro _; simp [psum, lsum]
  | succ i ih =>
    intro hi
    obtain ⟨i1, i2⟩ := ih (by omega)
    obtain ⟨a, b, c, e, h1, h2, h3, h4, h5, h6⟩ := tri_at F (show i < ts.length by omega)
    rw [psum_succ l ts i (by omega), e]
    have ev : tval l ((a : Int), (b : Int), (c : Int)) = sd (ptAt l a) (ptAt l b) (ptAt l c) := by unfold tval pOf; simp only [Int.toNat_natCast]
    rw [ev]
    have bd := sideN_bd (hn a (by omega)) (hn b (by omega)) (hn c (by omega))
    have e2 : sd (ptAt l a) (ptAt l b) (ptAt l c) = sideN (px l a) (py l a) (px l b) (py l b) (px l c) (py l c) := rfl
    rw [← e2] at bd
    omega

theorem pw_get {R : T3 → T3 → Prop} {ts : List T3} (h : ts.Pairwise R) {i j : Nat} (hij : i < j) (hj : j < ts.length) : R (ts.getD i (0, 0, 0)) (ts.getD j (0, 0, 0)) := by
  have e1 : ts.getD i (0, 0, 0) = ts[i] := by simp [show i < ts.length by omega]
  have e2 : ts.getD j (0, 0, 0) = ts[j] := by simp [hj]
  rw [e1, e2]
  exact List.pairwise_iff_getElem.1 h i j (by omega) hj hij

/-- what the rim's loop needs of one edge and one point -/
theorem sd_side (l : List Pt) (a b c : Nat) : sd (ptAt l a) (ptAt l b) (ptAt l c) = sideN (l.getD a (0, 0)).1 (l.getD a (0, 0)).2 (l.getD b (0, 0)).1 (l.getD b (0, 0)).2 (l.getD c (0, 0)).1 (l.getD c (0, 0)).2 := rfl
end Go.Proofs.YtgpapegpdfonpaaGreat
