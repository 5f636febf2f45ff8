/-
  The statement's book of lists that came out: what is known of it, and how it stays.
  The statement's book: Book.kept and Book.ints walked.
  The statement's book: Book.ints walked.
-/
import Derived.Test.YtgpapegpdfonpaaGreatDoorLawA
import Derived.Test.YtgpapegpdfonpaaGreatDoorOwnSow
set_option linter.unusedVariables false
set_option linter.unusedSimpArgs false
namespace Go.Proofs.YtgpapegpdfonpaaGreatDoor
open Go.RowKit
attribute [local go_sem ↓] Go.wp_at_zero Go.wp_at_succ
def bookCells (vI vM : Value) (nk : Nat) : Array Value := #[.slice none 0 0, vI, vM, .slice none 0 0, .slice none 0 0, .slice none 0 0, .slice none 0 0, .int .i64 (nk : Int)]
def EntW (w : World) (WB : Nat) (vM v : Value) (m : Int) : Prop :=
 ∃ a n c, v = .slice a n c ∧ n ≤ maxLen ∧ (n = 0 ∨ ∃ g cur, a = some ⟨g, 0, none⟩ ∧ WB < g ∧ some g ≠ vM.ownBlock ∧ w.heap[g]? = some (.cells cur 3 (0, 0)) ∧ ∀ k, k < n → cur[k]? = some (.int .i64 m))
structure Book (w : World) (WB : Nat) (vI vM : Value) (ls : List Value) (ms : List Int) (nk : Nat) : Prop where
 blk : w.heap[WB]? = some (.cells (bookCells vI vM nk) 32 (0, 0))
 ownI : w.ownsRow (WB + 1) 26 1 vI ls.length ls
 ownM : w.ownsRow (WB + 1) 3 1 vM ms.length (ms.map (.int .i64))
 ent : ∀ e ∈ ls.zip ms, EntW w WB vM e.1 e.2
theorem zip_more {α β : Type} (ls : List α) : ∀ (ms : List β) (v : α), ls.length = ms.length → (ls ++ [v]).zip ms = ls.zip ms := by
 induction ls with
 | nil => intro ms v h; cases ms with
  | nil => rfl
  | cons m ms => simp at h
 | cons x ls ih => intro ms v h; cases ms with
  | nil => simp at h
  | cons m ms => simp at h ⊢; exact ih ms v h
theorem own_typ {w : World} {base : Nat} {e : TypeId} {v : Value} {n g : Nat} {xs : List Value} (h : w.ownsRow base e 1 v n xs) (hg : v.ownBlock = some g) : base ≤ g ∧ ∃ cur, w.heap[g]? = some (.cells cur e (0, 0)) := by
 rcases h.2 with ⟨rfl, _⟩ | ⟨g0, cap, cur, rfl, hb, hh, _⟩
 ·cases hg
 ·cases hg; exact ⟨hb, cur, hh⟩
theorem own_keep {w w' : World} {base : Nat} {e : TypeId} {v : Value} {n : Nat} {xs : List Value} (h : w.ownsRow base e 1 v n xs) (hk : ∀ g, v.ownBlock = some g → w'.heap[g]? = w.heap[g]?) : w'.ownsRow base e 1 v n xs := by
 refine ⟨h.1, ?_⟩
 rcases h.2 with hn | ⟨g0, cap, cur, rfl, hb, hh, r⟩
 ·exact .inl hn
 ·exact .inr ⟨g0, cap, cur, rfl, hb, by rw [hk g0 rfl]; exact hh, r⟩
section
variable {w w3 : World} {WB g2 cap2 nk : Nat} {vI vM : Value} {ls : List Value} {ms : List Int} {o : Obj}
theorem grown_at {v : Value} (hat : (v.ownBlock = some g2 ∧ (w.alloc o).grownBy w3 (some g2)) ∨ (g2 = w.heap.size + 1 ∧ (w.alloc o).grownBy w3 none)) :
  w3.os = w.os ∧ w3.tape = w.tape ∧ w3.output = w.output ∧ w.heap.size ≤ w3.heap.size ∧ ∀ k, k < w.heap.size → some k ≠ v.ownBlock → w3.heap[k]? = w.heap[k]? := by
 have key : ∀ r, (w.alloc o).grownBy w3 r → w3.os = w.os ∧ w3.tape = w.tape ∧ w3.output = w.output ∧ w.heap.size ≤ w3.heap.size ∧ ∀ k, k < w.heap.size → some k ≠ r → w3.heap[k]? = w.heap[k]? := fun r h => by
  have hs := h.size
  simp at hs
  refine ⟨h.os, h.tape, h.output, by omega, fun k hk hr => ?_⟩
  rw [h.block k (by simp; omega) hr, Below.heap_alloc w o k hk]
 rcases hat with ⟨hv, h⟩ | ⟨_, h⟩
 ·rw [hv]; exact key _ h
 ·obtain ⟨a, b, c, d, e⟩ := key _ h
  exact ⟨a, b, c, d, fun k hk _ => e k hk (by simp)⟩
end
end Go.Proofs.YtgpapegpdfonpaaGreatDoor

namespace Go.Proofs.YtgpapegpdfonpaaGreatDoor
open Go.RowKit
attribute [local go_sem ↓] Go.wp_at_zero Go.wp_at_succ
theorem own_anyW {w : World} {base n : Nat} {e : TypeId} {xs : List Value} {v : Value} (h : w.ownsRow base e 1 v n xs) : ∃ a c, v = .slice a n c := by
 rcases own_shape h with ⟨rfl, rfl⟩ | ⟨g, c, rfl⟩
 ·exact ⟨none, 0, rfl⟩
 ·exact ⟨_, _, rfl⟩
theorem own_place {w : World} {base n c : Nat} {e : TypeId} {xs : List Value} {a : Option Addr} (h : w.ownsRow base e 1 (.slice a n c) n xs) (j : Nat) (hj : j < n) : ∃ g, a = some ⟨g, 0, none⟩ ∧ g < w.heap.size ∧ w.cell? ⟨g, j, none⟩ = xs[j]? := by
 rcases own_shape h with ⟨e, h0⟩ | ⟨g, cap, e⟩
 ·omega
 ·cases e
  obtain ⟨_, cur, hh⟩ := own_typ h (g := g) rfl
  exact ⟨g, rfl, lt_some hh, h.cellAt j (by omega)⟩
end Go.Proofs.YtgpapegpdfonpaaGreatDoor

namespace Go.Proofs.YtgpapegpdfonpaaGreatDoor
open Go.RowKit
attribute [local go_sem ↓] Go.wp_at_zero Go.wp_at_succ
theorem infoSl : (Tryz.prog.info? 26).map (fun i => (i.zero, i.size, i.bytes)) = some (some (.slice none 0 0), 1, 24) := by kernel_rfl
section
variable {w w3 : World} {WB g2 cap2 nk : Nat} {vI vM : Value} {ls : List Value} {ms : List Int} {o : Obj}
end
theorem fill_set {xs : List Value} {k : Nat} {u : Value} (h : k < xs.length) : (List.replicate k u ++ xs.drop k).set k u = List.replicate (k + 1) u ++ xs.drop (k + 1) := by
 rw [List.set_append_right _ _ (by simp), List.length_replicate, Nat.sub_self, List.replicate_succ', List.append_assoc]
 congr 1
 rw [List.drop_eq_getElem_cons h]
 rfl
end Go.Proofs.YtgpapegpdfonpaaGreatDoor
