/-
  A mesh of the program in memory; that points have triangles; rows out of which an element is taken.
-/
import Derived.Test.YtgpapegpdfonpaaGreatNetJL
import Derived.Test.YtgpapegpdfonpaaGreatOwnA
import Derived.Test.YtgpapegpdfonpaaGreatAroundMath
import Derived.Lib.SliceRun
namespace Go.Proofs.YtgpapegpdfonpaaGreat
set_option linter.unusedVariables false
set_option linter.unusedSimpArgs false
open Go.RowKit
attribute [local go_sem ↓] Go.wp_at_zero Go.wp_at_succ

/-! ### cells of a block, put -/
theorem setCells_block {g : Nat} {e : TypeId} : ∀ (vs : List Value) (o : Nat) (w : World) (cur : Array Value), w.heap[g]? = some (.cells cur e (0, 0)) → o + vs.length ≤ cur.size →
    (w.setCells g o vs).heap[g]? = some (.cells (cur.toList.take o ++ vs ++ cur.toList.drop (o + vs.length)).toArray e (0, 0))
  | [], o, w, cur, h, _ => by
    rw [World.setCells, h]
    simp
  | v :: r, o, w, cur, h, hl => by
    simp only [List.length_cons] at hl
    have s := heap_setCell_same w g o _ _ v h
    rw [World.setCells, setCells_block r (o + 1) _ _ s (by simp; omega)]
    congr 2
    have ho : o < cur.toList.length := by simp; omega
    have e1 : ((cur.setIfInBounds o v).toList.take (o + 1)) = cur.toList.take o ++ [v] := by
      rw [Array.toList_setIfInBounds, List.take_add_one, List.take_set_of_le (Nat.le_refl _), List.getElem?_set_self ho]
      rfl
    have e2 : ((cur.setIfInBounds o v).toList.drop (o + 1 + r.length)) = cur.toList.drop (o + (r.length + 1)) := by
      rw [Array.toList_setIfInBounds, List.drop_set_of_lt (by omega), show o + 1 + r.length = o + (r.length + 1) by omega]
    show (((cur.setIfInBounds o v).toList.take (o + 1)) ++ r ++ ((cur.setIfInBounds o v).toList.drop (o + 1 + r.length))).toArray = _
    rw [e1, e2]
    simp
theorem setCells_far {g k : Nat} (hk : k ≠ g) : ∀ (vs : List Value) (o : Nat) (w : World), (w.setCells g o vs).heap[k]? = w.heap[k]?
  | [], _, _ => rfl
  | v :: r, o, w => by rw [World.setCells, setCells_far hk r, Below.heap_setCell _ _ _ _ hk]
theorem setCells_plain {g : Nat} : ∀ (vs : List Value) (o : Nat) (w : World), (w.setCells g o vs).os = w.os ∧ (w.setCells g o vs).tape = w.tape ∧ (w.setCells g o vs).output = w.output ∧ (w.setCells g o vs).heap.size = w.heap.size
  | [], _, _ => ⟨rfl, rfl, rfl, rfl⟩
  | v :: r, o, w => by
    obtain ⟨h1, h2, h3, h4⟩ := setCells_plain (g := g) r (o + 1) (w.setCell ⟨g, o, none⟩ v)
    rw [World.setCells]
    exact ⟨h1, h2, h3, by rw [h4]; simp [World.setCell]⟩
theorem setCells_chg {g : Nat} (vs : List Value) (o : Nat) (w : World) : Chg (fun k => k = g) w (w.setCells g o vs) := by
  obtain ⟨h1, h2, h3, h4⟩ := setCells_plain (g := g) vs o w
  exact ⟨h1, h2, h3, Nat.le_of_eq h4.symm, fun k _ hk => setCells_far hk vs o w⟩

theorem raw_below {w w' : World} {a : Option Addr} {l : List Pt} (h : RawAt w a l) (hb : Below w.heap.size w w') : RawAt w' a l := by
  rcases h with h | ⟨b, off, e, hlt, hp⟩
  · exact .inl h
  · exact .inr ⟨b, off, e, Nat.lt_of_lt_of_le hlt hb.size, hp.below hb hlt⟩
/-! ### rows less one -/
theorem cellsP_take (l : List Pt) (i : Nat) : cellsP (l.take i) = (cellsP l).take (i * 2) := by
  by_cases h : i ≤ l.length
  · have e : cellsP l = cellsP (l.take i) ++ cellsP (l.drop i) := by rw [← cellsP_append, List.take_append_drop]
    rw [e, List.take_left' (by rw [cellsP_len, List.length_take, Nat.min_eq_left h])]
  · rw [List.take_of_length_le (by omega), List.take_of_length_le (by rw [cellsP_len]; omega)]
theorem cellsP_drop (l : List Pt) (i : Nat) : cellsP (l.drop i) = (cellsP l).drop (i * 2) := by
  by_cases h : i ≤ l.length
  · have e : cellsP l = cellsP (l.take i) ++ cellsP (l.drop i) := by rw [← cellsP_append, List.take_append_drop]
    rw [e, List.drop_left' (by rw [cellsP_len, List.length_take, Nat.min_eq_left h])]
  · rw [List.drop_of_length_le (by omega), List.drop_of_length_le (by rw [cellsP_len]; omega)]; rfl
theorem cellsP_erase (l : List Pt) (i : Nat) : cellsP (l.eraseIdx i) = (cellsP l).take (i * 2) ++ (cellsP l).drop ((i + 1) * 2) := by
  rw [List.eraseIdx_eq_take_drop_succ, cellsP_append, cellsP_take, cellsP_drop]

/-! ### points have triangles -/
theorem ptsAt_alloc (w : World) (l : List Pt) : PtsAt (w.alloc (.cells (cellsP l).toArray 32)) w.heap.size 0 l := by
  intro j hj
  obtain ⟨f0, f1⟩ := cellsP_get l j hj
  have e : l.getD j (0, 0) = l[j] := by simp [hj]
  have hl := cellsP_len l
  rw [Nat.zero_add]
  rw [World.cell?_alloc_at _ _ _ _ (by simp), World.cell?_alloc_at _ _ _ _ (by simp)]
  rw [List.getElem?_toArray, List.getElem?_toArray, f0, f1]
  exact ⟨rfl, rfl⟩
theorem tri_ex (w : World) (l : List Pt) (hl : l.length ≤ 60) (hn : AllNear l) (hnd : l.Nodup) : ∃ ts, TriSpec l ts ∧ ts.length ≤ 4000 := by
  by_cases h0 : l = []
  · subst h0
    exact ⟨[], ⟨[], ⟨List.Perm.refl _, (fun i j _ h => by cases h)⟩, .inl ⟨(fun j _ h => by cases h), rfl⟩⟩, by simp⟩
  · obtain ⟨n, hn'⟩ : ∃ n, l.length = n + 1 := ⟨l.length - 1, by have := List.length_pos_iff.2 h0; omega⟩
    generalize hW : w.alloc (.cells (cellsP l).toArray 32) = W
    have hb : w.heap.size < W.heap.size := by rw [← hW]; simp
    have hp : PtsAt W w.heap.size 0 l := by rw [← hW]; exact ptsAt_alloc w l
    clear hW
    generalize w.heap.size = b at *
    obtain ⟨_, w2, _, ⟨g, is, _, _, hgs, hb2, hns, _, hio⟩, _⟩ := order_any b 0 l.length l n W hn' hl hb hp []
    obtain ⟨_, w3, _, ⟨B, _, hB2, hcB, _, hb3⟩, _⟩ := askOf_any (some ⟨b, 0, none⟩) l.length l.length w2 []
    have hW3 : RowKit.Below W.heap.size W w3 := hb2.trans (hb3.mono hb2.size)
    have A : AskAt w3 B b 0 l.length l := ⟨hB2, Nat.lt_of_lt_of_le hb hW3.size, hcB, hp.below hW3 hb⟩
    obtain ⟨_, w4, _, ⟨v, ts, _, _, hS, hlen, _⟩, _⟩ := tris_any B b 0 l.length g l.length l is w3 hl hio hnd A hn (Nat.lt_of_lt_of_le hgs hb3.size) (hns.below hb3 hgs) []
    exact ⟨ts, hS, hlen⟩

/-! ### a mesh -/
structure PRow (w : World) (m : Nat) (pts : List Pt) (nums : List Int) (ever : Nat) (vA vN : Value) : Prop where
  blk : w.heap[m]? = some (.cells #[vA, vN, .int .i64 (ever : Int)] 50 (0, 0))
  ownA : w.ownsRow 0 32 2 vA pts.length (cellsP pts)
  ownN : w.ownsRow 0 3 1 vN nums.length (nums.map (.int .i64))
structure MOk (pts : List Pt) (nums : List Int) (ever : Nat) : Prop where
  len : pts.length = nums.length
  le : pts.length ≤ 60
  near : AllNear pts
  nd : pts.Nodup
  inc : nums.Pairwise (· < ·)
  rng : ∀ n ∈ nums, 0 ≤ n ∧ n < ever
section
variable {w w' : World} {m : Nat} {pts : List Pt} {nums : List Int} {ever : Nat} {vA vN : Value}
theorem PRow.keep (h : PRow w m pts nums ever vA vN) (hm : w'.heap[m]? = w.heap[m]?) (hA : ∀ g, vA.ownBlock = some g → w'.heap[g]? = w.heap[g]?) (hN : ∀ g, vN.ownBlock = some g → w'.heap[g]? = w.heap[g]?) : PRow w' m pts nums ever vA vN :=
  ⟨by rw [hm]; exact h.blk, ownS_keep h.ownA hA, ownS_keep h.ownN hN⟩
theorem PRow.below (h : PRow w m pts nums ever vA vN) (hb : Below w.heap.size w w') : PRow w' m pts nums ever vA vN :=
  h.keep (hb.block _ (lt_some h.blk)) (fun g hg => hb.block g (ownS_lt h.ownA hg)) (fun g hg => hb.block g (ownS_lt h.ownN hg))
theorem PRow.lt (h : PRow w m pts nums ever vA vN) : m < w.heap.size := lt_some h.blk
theorem PRow.cells (h : PRow w m pts nums ever vA vN) : w.cell? ⟨m, 0, none⟩ = some vA ∧ w.cell? ⟨m, 1, none⟩ = some vN ∧ w.cell? ⟨m, 2, none⟩ = some (.int .i64 (ever : Int)) ∧ ∀ j, w.frozen? ⟨m, j, none⟩ = false := by
  have hb := h.blk
  simp [World.cell?, World.frozen?, hb]
end
end Go.Proofs.YtgpapegpdfonpaaGreat
