/-
  The statement's book of lists that came out: what is known of it, and how it stays.
  The statement's book: Book.kept and Book.ints walked.
  The statement's book: Book.ints walked.
-/
import Derived.Test.YtgpapegpdfonpaaGreatDoorLawA
import Derived.Test.YtgpapegpdfonpaaGreatDoorOwnA
namespace Go.Proofs.YtgpapegpdfonpaaGreatDoor
set_option linter.unusedVariables false
set_option linter.unusedSimpArgs false
open Go.RowKit
attribute [local go_sem ↓] Go.wp_at_zero Go.wp_at_succ

/-! ### the book -/
def bookCells (vI vM : Value) (nk : Nat) : Array Value := #[.slice none 0 0, vI, vM, .slice none 0 0, .slice none 0 0, .slice none 0 0, .slice none 0 0, .int .i64 (nk : Int)]
/-- a list that came out: all over with its mark -/
def EntW (w : World) (WB : Nat) (vM v : Value) (m : Int) : Prop :=
  ∃ a n c, v = .slice a n c ∧ n ≤ maxLen ∧ (n = 0 ∨ ∃ g cur, a = some ⟨g, 0, none⟩ ∧ WB < g ∧ some g ≠ vM.ownBlock ∧ w.heap[g]? = some (.cells cur 3 (0, 0)) ∧ ∀ k, k < n → cur[k]? = some (.int .i64 m))
structure Book (w : World) (WB : Nat) (vI vM : Value) (ls : List Value) (ms : List Int) (nk : Nat) : Prop where
  blk : w.heap[WB]? = some (.cells (bookCells vI vM nk) 32 (0, 0))
  ownI : w.ownsRow (WB + 1) 26 1 vI ls.length ls
  ownM : w.ownsRow (WB + 1) 3 1 vM ms.length (ms.map (.int .i64))
  ent : ∀ e ∈ ls.zip ms, EntW w WB vM e.1 e.2

theorem zip_more {α β : Type} (ls : List α) : ∀ (ms : List β) (v : α), ls.length = ms.length → (ls ++ [v]).zip ms = ls.zip ms := by
  induction ls with
  | nil => intro ms v h; cases ms with
    | nil => rfl
    | cons m ms => simp at h
  | cons x ls ih => intro ms v h; cases ms with
    | nil => simp at h
    | cons m ms => simp at h ⊢; exact ih ms v h
theorem own_typ {w : World} {base : Nat} {e : TypeId} {v : Value} {n g : Nat} {xs : List Value} (h : w.ownsRow base e 1 v n xs) (hg : v.ownBlock = some g) : base ≤ g ∧ ∃ cur, w.heap[g]? = some (.cells cur e (0, 0)) := by
  rcases h.2 with ⟨rfl, _⟩ | ⟨g0, cap, cur, rfl, hb, hh, _⟩
  · cases hg
  · cases hg; exact ⟨hb, cur, hh⟩
theorem own_keep {w w' : World} {base : Nat} {e : TypeId} {v : Value} {n : Nat} {xs : List Value} (h : w.ownsRow base e 1 v n xs) (hk : ∀ g, v.ownBlock = some g → w'.heap[g]? = w.heap[g]?) : w'.ownsRow base e 1 v n xs := by
  refine ⟨h.1, ?_⟩
  rcases h.2 with hn | ⟨g0, cap, cur, rfl, hb, hh, r⟩
  · exact .inl hn
  · exact .inr ⟨g0, cap, cur, rfl, hb, by rw [hk g0 rfl]; exact hh, r⟩
theorem EntW.keep {w w' : World} {WB : Nat} {vM vM' v : Value} {m : Int} (h : EntW w WB vM v m)
    (hk : ∀ g cur, v.ownBlock = some g → 0 < lenV v → WB < g → some g ≠ vM.ownBlock → w.heap[g]? = some (.cells cur 3 (0, 0)) → w'.heap[g]? = w.heap[g]? ∧ some g ≠ vM'.ownBlock) : EntW w' WB vM' v m := by
  obtain ⟨a, n, c, rfl, hmx, h⟩ := h
  refine ⟨a, n, c, rfl, hmx, ?_⟩
  rcases h with h | ⟨g, cur, rfl, hB, hne, hh, hc⟩
  · exact .inl h
  · by_cases h0 : n = 0
    · exact .inl h0
    · obtain ⟨e1, e2⟩ := hk g cur rfl (by simp [lenV]; omega) hB hne hh
      exact .inr ⟨g, cur, rfl, hB, e2, by rw [e1]; exact hh, hc⟩
theorem Book.lt {w : World} {WB : Nat} {vI vM : Value} {ls : List Value} {ms : List Int} {nk : Nat} (h : Book w WB vI vM ls ms nk) : WB < w.heap.size := lt_some h.blk
/-- it stays where its blocks stay -/
theorem Book.stay {w w' : World} {WB : Nat} {vI vM : Value} {ls : List Value} {ms : List Int} {nk : Nat} (h : Book w WB vI vM ls ms nk)
    (hk : ∀ k cs t, w.heap[k]? = some (.cells cs t (0, 0)) → (t = 32 ∨ t = 26 ∨ (t = 3 ∧ (vM.ownBlock = some k ∨ ∃ e ∈ ls.zip ms, e.1.ownBlock = some k ∧ 0 < lenV e.1))) → w'.heap[k]? = w.heap[k]?) : Book w' WB vI vM ls ms nk := by
  refine ⟨by rw [hk _ _ _ h.blk (.inl rfl)]; exact h.blk, own_keep h.ownI fun g hg => ?_, own_keep h.ownM fun g hg => ?_, fun e he => (h.ent e he).keep fun g cur hg h0 _ hne hh => ⟨hk _ _ _ hh (.inr (.inr ⟨rfl, .inr ⟨e, he, hg, h0⟩⟩)), hne⟩⟩
  · obtain ⟨_, cur, hh⟩ := own_typ h.ownI hg; exact hk _ _ _ hh (.inr (.inl rfl))
  · obtain ⟨_, cur, hh⟩ := own_typ h.ownM hg; exact hk _ _ _ hh (.inr (.inr ⟨rfl, .inl hg⟩))
theorem Book.below {w w' : World} {WB : Nat} {vI vM : Value} {ls : List Value} {ms : List Int} {nk : Nat} (h : Book w WB vI vM ls ms nk) (hb : Below w.heap.size w w') : Book w' WB vI vM ls ms nk :=
  h.stay fun k cs t hk _ => hb.block k (lt_some hk)
theorem Book.grown {w w' : World} {WB g : Nat} {vI vM : Value} {ls : List Value} {ms : List Int} {nk : Nat} (h : Book w WB vI vM ls ms nk) {l : List Pt} (hr : RowP w g l) (hb : w.grownBy w' (some g)) : Book w' WB vI vM ls ms nk :=
  h.stay fun k cs t hk ht => hb.block k (lt_some hk) fun e => by
    cases e
    refine typ_ne hk hr (fun e => ?_) rfl
    subst e
    rcases ht with e | e | ⟨e, _⟩ <;> exact absurd e (by decide)

/-- what a step leaves: the blocks below the book's, and all blocks of other types -/
structure Kept (WB : Nat) (w w' : World) : Prop where
  os : w'.os = w.os
  tape : w'.tape = w.tape
  output : w'.output = w.output
  size : w.heap.size ≤ w'.heap.size
  low : ∀ k, k < WB → w'.heap[k]? = w.heap[k]?
  other : ∀ (k : Nat) (cs : Array Value) (t : TypeId), w.heap[k]? = some (.cells cs t (0, 0)) → t ≠ 32 → t ≠ 26 → t ≠ 3 → w'.heap[k]? = w.heap[k]?
theorem Kept.refl (WB : Nat) (w : World) : Kept WB w w := ⟨rfl, rfl, rfl, Nat.le_refl _, fun _ _ => rfl, fun _ _ _ _ _ _ _ => rfl⟩
theorem Kept.trans {WB : Nat} {a b c : World} (h : Kept WB a b) (k : Kept WB b c) : Kept WB a c :=
  ⟨k.os.trans h.os, k.tape.trans h.tape, k.output.trans h.output, Nat.le_trans h.size k.size, fun i hi => (k.low i hi).trans (h.low i hi), fun i cs t hi h1 h2 h3 => by
    have e := h.other i cs t hi h1 h2 h3
    rw [k.other i cs t (by rw [e]; exact hi) h1 h2 h3, e]⟩
theorem Kept.below {WB : Nat} {w w' : World} (h : Kept WB w w') : Below WB w w' := ⟨h.os, h.tape, h.output, h.size, h.low⟩

section
variable {w w3 : World} {WB g2 cap2 nk : Nat} {vI vM : Value} {ls : List Value} {ms : List Int} {o : Obj}

theorem grown_at {v : Value} (hat : (v.ownBlock = some g2 ∧ (w.alloc o).grownBy w3 (some g2)) ∨ (g2 = w.heap.size + 1 ∧ (w.alloc o).grownBy w3 none)) :
    w3.os = w.os ∧ w3.tape = w.tape ∧ w3.output = w.output ∧ w.heap.size ≤ w3.heap.size ∧ ∀ k, k < w.heap.size → some k ≠ v.ownBlock → w3.heap[k]? = w.heap[k]? := by
  have key : ∀ r, (w.alloc o).grownBy w3 r → w3.os = w.os ∧ w3.tape = w.tape ∧ w3.output = w.output ∧ w.heap.size ≤ w3.heap.size ∧ ∀ k, k < w.heap.size → some k ≠ r → w3.heap[k]? = w.heap[k]? := fun r h => by
    have hs := h.size
    simp at hs
    refine ⟨h.os, h.tape, h.output, by omega, fun k hk hr => ?_⟩
    rw [h.block k (by simp; omega) hr, Below.heap_alloc w o k hk]
  rcases hat with ⟨hv, h⟩ | ⟨_, h⟩
  · rw [hv]; exact key _ h
  · obtain ⟨a, b, c, d, e⟩ := key _ h
    exact ⟨a, b, c, d, fun k hk _ => e k hk (by simp)⟩

/-- one list more -/
theorem Book.putI {vl : Value} (h : Book w WB vI vM ls ms nk) (hlen : ls.length = ms.length)
    (hown : w3.ownsRow (WB + 1) 26 1 (.slice (some ⟨g2, 0, none⟩) (ls.length + 1) cap2) (ls.length + 1) (ls ++ [vl]))
    (hat : (vI.ownBlock = some g2 ∧ (w.alloc o).grownBy w3 (some g2)) ∨ (g2 = w.heap.size + 1 ∧ (w.alloc o).grownBy w3 none)) :
    Book (w3.setCell ⟨WB, 1, none⟩ (.slice (some ⟨g2, 0, none⟩) (ls.length + 1) cap2)) WB (.slice (some ⟨g2, 0, none⟩) (ls.length + 1) cap2) vM (ls ++ [vl]) ms nk ∧
    (∀ k cs t, w.heap[k]? = some (.cells cs t (0, 0)) → k ≠ WB → t ≠ 26 → (w3.setCell ⟨WB, 1, none⟩ (.slice (some ⟨g2, 0, none⟩) (ls.length + 1) cap2)).heap[k]? = w.heap[k]?) ∧
    Kept WB w (w3.setCell ⟨WB, 1, none⟩ (.slice (some ⟨g2, 0, none⟩) (ls.length + 1) cap2)) := by
  obtain ⟨e1, e2, e3, e4, e5⟩ := grown_at hat
  have hWB := h.lt
  have hg2 : WB < g2 := by have := (own_typ hown (g := g2) rfl).1; omega
  have hWI : some WB ≠ vI.ownBlock := fun e => by have := (own_typ h.ownI e.symm).1; omega
  have hblk : w3.heap[WB]? = some (.cells (bookCells vI vM nk) 32 (0, 0)) := by rw [e5 WB hWB hWI]; exact h.blk
  generalize hv : Value.slice (some ⟨g2, 0, none⟩) (ls.length + 1) cap2 = v' at *
  have unch : ∀ k cs t, w.heap[k]? = some (.cells cs t (0, 0)) → k ≠ WB → t ≠ 26 → (w3.setCell ⟨WB, 1, none⟩ v').heap[k]? = w.heap[k]? := fun k cs t hk hne ht => by
    rw [Below.heap_setCell _ _ _ _ hne]
    refine e5 k (lt_some hk) fun e => ?_
    obtain ⟨_, cur, hh⟩ := own_typ h.ownI e.symm
    exact typ_ne hk hh ht rfl
  refine ⟨⟨?_, ?_, ?_, ?_⟩, unch, e1, e2, e3, by simpa using e4, fun k hk => ?_, fun k cs t hk t1 t2 t3 => ?_⟩
  · rw [heap_setCell_same w3 WB 1 _ _ _ hblk]; rfl
  · have := own_keep (w' := w3.setCell ⟨WB, 1, none⟩ v') hown fun g hg => by
      subst hv
      cases hg
      exact Below.heap_setCell _ _ _ _ (by simp; omega)
    rw [List.length_append]
    exact this
  · refine own_keep h.ownM fun g hg => ?_
    obtain ⟨hb, cur, hh⟩ := own_typ h.ownM hg
    exact unch g cur _ hh (by omega) (by decide)
  · intro e he
    rw [zip_more ls ms vl hlen] at he
    exact (h.ent e he).keep fun g cur _ _ hB hne hh => ⟨unch g cur _ hh (by omega) (by decide), hne⟩
  · rw [Below.heap_setCell _ _ _ _ (by simp; omega)]
    refine e5 k (by omega) fun e => ?_
    have := (own_typ h.ownI e.symm).1
    omega
  · exact unch k _ _ hk (typ_ne hk h.blk t1) t2

/-- one mark more -/
theorem Book.putM {vl : Value} {m : Int} (h : Book w WB vI vM (ls ++ [vl]) ms nk) (hlen : ls.length = ms.length) (hent : EntW w WB vM vl m)
    (hown : w3.ownsRow (WB + 1) 3 1 (.slice (some ⟨g2, 0, none⟩) (ms.length + 1) cap2) (ms.length + 1) (ms.map (.int .i64) ++ [.int .i64 m]))
    (hat : (vM.ownBlock = some g2 ∧ (w.alloc o).grownBy w3 (some g2)) ∨ (g2 = w.heap.size + 1 ∧ (w.alloc o).grownBy w3 none)) :
    Book (w3.setCell ⟨WB, 2, none⟩ (.slice (some ⟨g2, 0, none⟩) (ms.length + 1) cap2)) WB vI (.slice (some ⟨g2, 0, none⟩) (ms.length + 1) cap2) (ls ++ [vl]) (ms ++ [m]) nk ∧
    (∀ k cs t, w.heap[k]? = some (.cells cs t (0, 0)) → k ≠ WB → some k ≠ vM.ownBlock → (w3.setCell ⟨WB, 2, none⟩ (.slice (some ⟨g2, 0, none⟩) (ms.length + 1) cap2)).heap[k]? = w.heap[k]? ∧ some k ≠ some g2) ∧
    Kept WB w (w3.setCell ⟨WB, 2, none⟩ (.slice (some ⟨g2, 0, none⟩) (ms.length + 1) cap2)) := by
  obtain ⟨e1, e2, e3, e4, e5⟩ := grown_at hat
  have hWB := h.lt
  have hg2 : WB < g2 := by have := (own_typ hown (g := g2) rfl).1; omega
  have hWI : some WB ≠ vM.ownBlock := fun e => by have := (own_typ h.ownM e.symm).1; omega
  have hblk : w3.heap[WB]? = some (.cells (bookCells vI vM nk) 32 (0, 0)) := by rw [e5 WB hWB hWI]; exact h.blk
  have hnew : ∀ k, k < w.heap.size → some k ≠ vM.ownBlock → some k ≠ some g2 := fun k hk hne e => by
    rcases hat with ⟨hv, _⟩ | ⟨hv, _⟩
    · exact hne (by rw [hv]; exact e)
    · cases e; omega
  generalize hv : Value.slice (some ⟨g2, 0, none⟩) (ms.length + 1) cap2 = v' at *
  have hvb : v'.ownBlock = some g2 := by rw [← hv]; rfl
  have unch : ∀ k cs t, w.heap[k]? = some (.cells cs t (0, 0)) → k ≠ WB → some k ≠ vM.ownBlock → (w3.setCell ⟨WB, 2, none⟩ v').heap[k]? = w.heap[k]? ∧ some k ≠ some g2 := fun k cs t hk hne hM => by
    rw [Below.heap_setCell _ _ _ _ hne]
    exact ⟨e5 k (lt_some hk) hM, hnew k (lt_some hk) hM⟩
  refine ⟨⟨?_, ?_, ?_, ?_⟩, unch, e1, e2, e3, by simpa using e4, fun k hk => ?_, fun k cs t hk t1 t2 t3 => ?_⟩
  · rw [heap_setCell_same w3 WB 2 _ _ _ hblk]; rfl
  · refine own_keep h.ownI fun g hg => ?_
    obtain ⟨hb, cur, hh⟩ := own_typ h.ownI hg
    refine (unch g cur _ hh (by omega) fun e => ?_).1
    obtain ⟨_, cur', hh'⟩ := own_typ h.ownM e.symm
    exact typ_ne hh hh' (by decide) rfl
  · have := own_keep (w' := w3.setCell ⟨WB, 2, none⟩ v') hown fun g hg => by
      rw [hvb] at hg
      cases hg
      exact Below.heap_setCell _ _ _ _ (by simp; omega)
    rw [List.length_append, List.map_append]
    exact this
  · intro e he
    rw [List.zip_append hlen] at he
    have key : ∀ v q, EntW w WB vM v q → EntW (w3.setCell ⟨WB, 2, none⟩ v') WB v' v q := fun v q hv => hv.keep fun g cur _ _ hB hne hh => by
      rw [hvb]; exact unch g cur _ hh (by omega) hne
    rcases List.mem_append.1 he with he | he
    · refine key _ _ (h.ent e ?_)
      rw [zip_more ls ms vl hlen]; exact he
    · simp at he
      subst he
      exact key _ _ hent
  · rw [Below.heap_setCell _ _ _ _ (by simp; omega)]
    refine e5 k (by omega) fun e => ?_
    have := (own_typ h.ownM e.symm).1
    omega
  · refine (unch k _ _ hk (typ_ne hk h.blk t1) fun e => ?_).1
    obtain ⟨_, cur', hh'⟩ := own_typ h.ownM e.symm
    exact typ_ne hk hh' t3 rfl

/-- what a list that is about to be written shares with the book -/
def Shares (vM : Value) (ls : List Value) (ms : List Int) (vl : Value) (n : Nat) (m : Int) : Prop :=
  ∀ g, vl.ownBlock = some g → some g ≠ vM.ownBlock ∧ ∀ e ∈ ls.zip ms, e.1.ownBlock = some g → 0 < lenV e.1 → e.2 = m ∧ lenV e.1 ≤ n

/-- the list itself, longer by one -/
theorem Book.putL {vl : Value} {n : Nat} {m : Int} (h : Book w WB vI vM ls ms nk) (hvl : w.ownsRow (WB + 1) 3 1 vl n (List.replicate n (.int .i64 m))) (hs : Shares vM ls ms vl n m)
    (hown : w3.ownsRow (WB + 1) 3 1 (.slice (some ⟨g2, 0, none⟩) (n + 1) cap2) (n + 1) (List.replicate n (.int .i64 m) ++ [.int .i64 m]))
    (hat : (vl.ownBlock = some g2 ∧ (w.alloc o).grownBy w3 (some g2)) ∨ (g2 = w.heap.size + 1 ∧ (w.alloc o).grownBy w3 none)) :
    Book w3 WB vI vM ls ms nk ∧ Shares vM ls ms (.slice (some ⟨g2, 0, none⟩) (n + 1) cap2) (n + 1) m ∧ Kept WB w w3 := by
  obtain ⟨e1, e2, e3, e4, e5⟩ := grown_at hat
  have far : ∀ k cs, w.heap[k]? = some (.cells cs 3 (0, 0)) → vM.ownBlock = some k → some k ≠ vl.ownBlock := fun k cs hk hM e => (hs k e.symm).1 hM.symm
  have fart : ∀ k cs t, w.heap[k]? = some (.cells cs t (0, 0)) → t ≠ 3 → some k ≠ vl.ownBlock := fun k cs t hk ht e => by
    obtain ⟨_, cur', hh'⟩ := own_typ hvl e.symm
    exact typ_ne hk hh' ht rfl
  refine ⟨⟨?_, ?_, ?_, ?_⟩, ?_, e1, e2, e3, e4, fun k hk => ?_, fun k cs t hk t1 t2 t3 => ?_⟩
  · rw [e5 WB h.lt (fart _ _ _ h.blk (by decide))]; exact h.blk
  · refine own_keep h.ownI fun g hg => ?_
    obtain ⟨hb, cur, hh⟩ := own_typ h.ownI hg
    exact e5 g (lt_some hh) (fart _ _ _ hh (by decide))
  · refine own_keep h.ownM fun g hg => ?_
    obtain ⟨hb, cur, hh⟩ := own_typ h.ownM hg
    exact e5 g (lt_some hh) (far _ _ hh hg)
  · intro e he
    obtain ⟨a, ne, c, hv, hmx, hE⟩ := h.ent e he
    refine ⟨a, ne, c, hv, hmx, ?_⟩
    rcases hE with h0 | ⟨g, cur, rfl, hB, hne, hh, hc⟩
    · exact .inl h0
    by_cases h0 : ne = 0
    · exact .inl h0
    right
    have hl : lenV e.1 = ne := by rw [hv]; rfl
    have hob : e.1.ownBlock = some g := by rw [hv]; rfl
    by_cases hg : some g = vl.ownBlock
    · obtain ⟨_, hsh⟩ := hs g hg.symm
      obtain ⟨hm, hle⟩ := hsh e he hob (by omega)
      rcases hat with ⟨hg2, _⟩ | ⟨_, hnone⟩
      · rw [← hg] at hg2
        have hg2' : g = g2 := by simpa using hg2
        subst hg2'
        rcases hown.2 with ⟨hn, _⟩ | ⟨g', cap', cur', hv', hb', hh', h1', h2', h3', h4'⟩
        · cases hn
        · cases hv'
          refine ⟨g, cur', rfl, hB, hne, hh', fun k hk => ?_⟩
          have e : (List.replicate n (Value.int .i64 m) ++ [.int .i64 m])[k]? = some (.int .i64 m) := by
            rw [← List.replicate_succ']
            rw [List.getElem?_replicate, if_pos (by omega)]
          rw [← h4', List.getElem?_take] at e
          split at e
          · rw [hm]; simpa using e
          · cases e
      · refine ⟨g, cur, rfl, hB, hne, ?_, hc⟩
        rw [hnone.block g (by have := lt_some hh; simp; omega) (by simp), Below.heap_alloc w o g (lt_some hh)]
        exact hh
    · exact ⟨g, cur, rfl, hB, hne, by rw [e5 g (lt_some hh) hg]; exact hh, hc⟩
  · intro g hg
    cases hg
    rcases hat with ⟨hg2, _⟩ | ⟨hg2, _⟩
    · obtain ⟨a, b⟩ := hs _ hg2
      exact ⟨a, fun e he h1 h2 => ⟨(b e he h1 h2).1, by have := (b e he h1 h2).2; omega⟩⟩
    · refine ⟨fun e => ?_, fun e he h1 h2 => ?_⟩
      · obtain ⟨_, cur', hh'⟩ := own_typ h.ownM e.symm
        have : g2 < w.heap.size := lt_some hh'
        omega
      · obtain ⟨a, ne, c, hv, _, hE⟩ := h.ent e he
        rw [hv] at h1 h2
        rcases hE with rfl | ⟨g, cur, rfl, hB, hne, hh, hc⟩
        · simp [lenV] at h2
        · cases h1
          have : g2 < w.heap.size := lt_some hh
          omega
  · refine e5 k (by have := h.lt; omega) fun e => ?_
    have := (own_typ hvl e.symm).1
    omega
  · exact e5 k (lt_some hk) (fart _ _ _ hk t3)

/-- the list as it is: an entry -/
theorem ent_of_own {vl : Value} {n : Nat} {m : Int} (hvl : w.ownsRow (WB + 1) 3 1 vl n (List.replicate n (.int .i64 m))) (hne : ∀ g, vl.ownBlock = some g → some g ≠ vM.ownBlock) : EntW w WB vM vl m := by
  rcases hvl.2 with ⟨rfl, rfl⟩ | ⟨g, cap, cur, rfl, hb, hh, h1, h2, h3, h4⟩
  · exact ⟨none, 0, 0, rfl, Nat.zero_le _, .inl rfl⟩
  · refine ⟨_, n, cap, rfl, by omega, .inr ⟨g, cur, rfl, by omega, hne g rfl, hh, fun k hk => ?_⟩⟩
    have e : (List.replicate n (Value.int .i64 m))[k]? = some (.int .i64 m) := by rw [List.getElem?_replicate, if_pos hk]
    rw [← h4, List.getElem?_take] at e
    split at e
    · simpa using e
    · cases e
end

end Go.Proofs.YtgpapegpdfonpaaGreatDoor

namespace Go.Proofs.YtgpapegpdfonpaaGreatDoor
set_option linter.unusedVariables false
set_option linter.unusedSimpArgs false
open Go.RowKit
attribute [local go_sem ↓] Go.wp_at_zero Go.wp_at_succ

theorem own_anyW {w : World} {base n : Nat} {e : TypeId} {xs : List Value} {v : Value} (h : w.ownsRow base e 1 v n xs) : ∃ a c, v = .slice a n c := by
  rcases own_shape h with ⟨rfl, rfl⟩ | ⟨g, c, rfl⟩
  · exact ⟨none, 0, rfl⟩
  · exact ⟨_, _, rfl⟩
theorem own_place {w : World} {base n c : Nat} {e : TypeId} {xs : List Value} {a : Option Addr} (h : w.ownsRow base e 1 (.slice a n c) n xs) (j : Nat) (hj : j < n) : ∃ g, a = some ⟨g, 0, none⟩ ∧ g < w.heap.size ∧ w.cell? ⟨g, j, none⟩ = xs[j]? := by
  rcases own_shape h with ⟨e, h0⟩ | ⟨g, cap, e⟩
  · omega
  · cases e
    obtain ⟨_, cur, hh⟩ := own_typ h (g := g) rfl
    exact ⟨g, rfl, lt_some hh, h.cellAt j (by omega)⟩

theorem Book.cells {w : World} {WB : Nat} {vI vM : Value} {ls : List Value} {ms : List Int} {nk : Nat} (h : Book w WB vI vM ls ms nk) :
    w.cell? ⟨WB, 0, none⟩ = some (.slice none 0 0) ∧ w.cell? ⟨WB, 1, none⟩ = some vI ∧ w.cell? ⟨WB, 2, none⟩ = some vM ∧ w.cell? ⟨WB, 3, none⟩ = some (.slice none 0 0) ∧ w.cell? ⟨WB, 5, none⟩ = some (.slice none 0 0) ∧ w.cell? ⟨WB, 7, none⟩ = some (.int .i64 (nk : Int)) := by
  have hb := h.blk
  simp [World.cell?, hb, bookCells]
theorem Book.frozen {w : World} {WB : Nat} {vI vM : Value} {ls : List Value} {ms : List Int} {nk : Nat} (h : Book w WB vI vM ls ms nk) (j : Nat) : w.frozen? ⟨WB, j, none⟩ = false := by
  have hb := h.blk
  simp [World.frozen?, hb]

/-- what is read of an entry -/
theorem Book.entry {w : World} {WB : Nat} {ia ma : Option Addr} {ic mc : Nat} {ls : List Value} {ms : List Int} {nk : Nat} (h : Book w WB (.slice ia ls.length ic) (.slice ma ms.length mc) ls ms nk) (hlen : ls.length = ms.length) (k : Nat) (hk : k < ls.length) :
    ∃ gI gM a n c m, ia = some ⟨gI, 0, none⟩ ∧ ma = some ⟨gM, 0, none⟩ ∧ w.cell? ⟨gI, k, none⟩ = some (.slice a n c) ∧ w.cell? ⟨gM, k, none⟩ = some (.int .i64 m) ∧ n ≤ maxLen ∧ ∀ j, j < n → ∃ g, a = some ⟨g, 0, none⟩ ∧ w.cell? ⟨g, j, none⟩ = some (.int .i64 m) := by
  obtain ⟨gI, rfl, _, cI⟩ := own_place h.ownI k hk
  obtain ⟨gM, rfl, _, cM⟩ := own_place h.ownM k (by omega)
  have hkm : k < ms.length := by omega
  have hz : k < (ls.zip ms).length := by simp; omega
  have he := h.ent _ (List.getElem_mem hz)
  rw [List.getElem_zip] at he
  obtain ⟨a, n, c, hv, hmx, hE⟩ := he
  simp only at hv hE
  refine ⟨gI, gM, a, n, c, ms[k], rfl, rfl, ?_, ?_, hmx, fun j hj => ?_⟩
  · rw [cI, ← hv]; simp [hk]
  · rw [cM]; simp [hkm]
  · rcases hE with h0 | ⟨g, cur, rfl, _, _, hh, hc⟩
    · omega
    · exact ⟨g, rfl, by simp [World.cell?, hh, hc j hj]⟩

set_option maxHeartbeats 4000000 in
theorem kept_any (WB : Nat) (vI vM : Value) (ls : List Value) (ms : List Int) (nk : Nat) (w : World) (h : Book w WB vI vM ls ms nk) (hlen : ls.length = ms.length) (hl : ls.length ≤ 3703618116000) :
    Calls Tryz.prog 18 #[.pointer (some ⟨WB, 1, none⟩)] w fun e w' => e = .returned (.bool true) ∧ Below w.heap.size w w' := by
  obtain ⟨ia, ic, rfl⟩ := own_anyW h.ownI
  obtain ⟨ma, mc, rfl⟩ := own_anyW h.ownM
  have HB : Hid (Book w WB (.slice ia ls.length ic) (.slice ma ms.length mc) ls ms nk) := h
  have HL : Hid (ls.length = ms.length ∧ ls.length ≤ 3703618116000) := ⟨hlen, hl⟩
  have hWB := h.lt
  have l8 : (ls.length : Int) ≤ 3703618116000 := by omega
  clear h hl
  go_enter Tryz.func18, Tryz.ntmps18
  go_wp2
  go_loopw [3] (fun i wr => ∃ k : Nat, k ≤ ls.length ∧ i = .int .i64 k ∧ Below w.heap.size w wr) (fun i _ => ls.length - (intOf i).toNat)
  case atStart => exact ⟨0, by omega, rfl, Below.refl _ _⟩
  case round =>
    obtain ⟨k, hk, rfl, hnx⟩ := hrel
    obtain ⟨_, b1, b2, b3, b5, _⟩ := (HB.out.below hnx).cells
    by_cases hlt : k < ls.length
    · clear b3 b5 b1 b2
      have ENT : Hid (∀ wr, Below w.heap.size w wr → ∃ gI gM a n c m, ia = some ⟨gI, 0, none⟩ ∧ ma = some ⟨gM, 0, none⟩ ∧ wr.cell? ⟨gI, k, none⟩ = some (.slice a n c) ∧ wr.cell? ⟨gM, k, none⟩ = some (.int .i64 m) ∧ n ≤ maxLen ∧ ∀ j, j < n → ∃ g, a = some ⟨g, 0, none⟩ ∧ wr.cell? ⟨g, j, none⟩ = some (.int .i64 m)) :=
        fun wr hb => (HB.out.below hb).entry HL.out.1 k hlt
      obtain ⟨gI, gM, a, n, c, m, rfl, rfl, c0, c1, hn, hcs⟩ := HB.out.entry HL.out.1 k hlt
      have HC : Hid (∀ wr, Below w.heap.size w wr → wr.cell? ⟨WB, 1, none⟩ = some (.slice (some ⟨gI, 0, none⟩) ls.length ic) ∧ wr.cell? ⟨WB, 2, none⟩ = some (.slice (some ⟨gM, 0, none⟩) ms.length mc) ∧ wr.cell? ⟨gI, k, none⟩ = some (.slice a n c) ∧ wr.cell? ⟨gM, k, none⟩ = some (.int .i64 m)) := fun wr hb => by
        obtain ⟨_, b1, b2, _⟩ := (HB.out.below hb).cells
        exact ⟨b1, b2, (hb.cell (p := ⟨gI, k, none⟩) (World.block_lt_of_cell? w _ c0)).trans c0, (hb.cell (p := ⟨gM, k, none⟩) (World.block_lt_of_cell? w _ c1)).trans c1⟩
      have HN : Hid (∀ wr, Below w.heap.size w wr → ∀ j, j < n → ∃ g, a = some ⟨g, 0, none⟩ ∧ wr.cell? ⟨g, j, none⟩ = some (.int .i64 m)) := fun wr hb j hj => by
        obtain ⟨g, ha, hc⟩ := hcs j hj
        exact ⟨g, ha, (hb.cell (p := ⟨g, j, none⟩) (World.block_lt_of_cell? w _ hc)).trans hc⟩
      have n63 : (n : Int) ≤ 9223372036854775807 := by unfold maxLen at hn; omega
      clear ENT c0 c1 hcs hn
      have x0 : (0 : Int) ≤ (k : Int) := by omega
      have x1 : (k : Int) < (ls.length : Int) := by omega
      have x3 : (k : Int) < (ms.length : Int) := by omega
      have x4 : IntKind.i64.wrap ((k : Int) + 1) = (k : Int) + 1 := wrap_id (by omega) (by omega)
      obtain ⟨b1, b2, b3, b4⟩ := HC.out wr hnx
      go_wp2
      go_loopw [4] (fun i wr => ∃ j : Nat, j ≤ n ∧ i = .int .i64 j ∧ Below w.heap.size w wr) (fun i _ => n - (intOf i).toNat)
      case atStart => exact ⟨0, by omega, rfl, hnx⟩
      case round =>
        clear hnx b1 b2 b3 b4
        obtain ⟨j, hj, rfl, hnx⟩ := hrel
        obtain ⟨b1, b2, b3, b4⟩ := HC.out wr hnx
        by_cases hjn : j < n
        · obtain ⟨g, rfl, b5⟩ := HN.out wr hnx j hjn
          have y0 : (0 : Int) ≤ (j : Int) := by omega
          have y1 : (j : Int) < (n : Int) := by omega
          have y4 : IntKind.i64.wrap ((j : Int) + 1) = (j : Int) + 1 := wrap_id (by omega) (by omega)
          clear HC HN
          go_wp2_with fail
          go_quiet (fail)
          go_wp2
          go_roundw
          case rel => exact ⟨j + 1, by omega, by go_num, below_drewN hnx⟩
          case measure => simp [intOf]; omega
        · go_wp2
          go_roundw
          case rel => exact ⟨k + 1, by omega, by go_num, hnx⟩
          case measure => simp [intOf]; omega
    · clear b2
      go_wp2
      go_loopw [5] (fun i wr => i = .int .i64 0 ∧ Below w.heap.size w wr) (fun _ _ => 0)
      case atStart => exact ⟨rfl, hnx⟩
      case round =>
        clear hnx b1 b3 b5
        obtain ⟨rfl, hnx⟩ := hrel
        obtain ⟨_, b1, b2, b3, b5, _⟩ := (HB.out.below hnx).cells
        go_wp2
        go_loopw [8] (fun i wr => i = .int .i64 0 ∧ Below w.heap.size w wr) (fun _ _ => 0)
        case atStart => exact ⟨rfl, hnx⟩
        case round =>
          clear hnx b1 b2 b3 b5
          obtain ⟨rfl, hnx⟩ := hrel
          obtain ⟨_, b1, b2, b3, b5, _⟩ := (HB.out.below hnx).cells
          go_wp2
          go_ret
          exact ⟨rfl, hnx⟩

end Go.Proofs.YtgpapegpdfonpaaGreatDoor

namespace Go.Proofs.YtgpapegpdfonpaaGreatDoor
set_option linter.unusedVariables false
set_option linter.unusedSimpArgs false
open Go.RowKit
attribute [local go_sem ↓] Go.wp_at_zero Go.wp_at_succ

theorem infoSl : (Tryz.prog.info? 26).map (fun i => (i.zero, i.size, i.bytes)) = some (some (.slice none 0 0), 1, 24) := by kernel_rfl

section
variable {w w3 : World} {WB g2 cap2 nk : Nat} {vI vM : Value} {ls : List Value} {ms : List Int} {o : Obj}
theorem Book.bump (h : Book w WB vI vM ls ms nk) : Book (w.setCell ⟨WB, 7, none⟩ (.int .i64 ((nk : Int) + 1))) WB vI vM ls ms (nk + 1) ∧ Kept WB w (w.setCell ⟨WB, 7, none⟩ (.int .i64 ((nk : Int) + 1))) ∧
    ∀ k, k ≠ WB → (w.setCell ⟨WB, 7, none⟩ (.int .i64 ((nk : Int) + 1))).heap[k]? = w.heap[k]? := by
  have far : ∀ k, k ≠ WB → (w.setCell ⟨WB, 7, none⟩ (.int .i64 ((nk : Int) + 1))).heap[k]? = w.heap[k]? := fun k hk => Below.heap_setCell _ _ _ _ hk
  refine ⟨⟨?_, ?_, ?_, ?_⟩, ⟨rfl, rfl, rfl, by simp, fun k hk => far k (by omega), fun k cs t hk t1 t2 t3 => far k (typ_ne hk h.blk t1)⟩, far⟩
  · rw [heap_setCell_same w WB 7 _ _ _ h.blk]; rfl
  · exact own_keep h.ownI fun g hg => far g (by have := (own_typ h.ownI hg).1; omega)
  · exact own_keep h.ownM fun g hg => far g (by have := (own_typ h.ownM hg).1; omega)
  · exact fun e he => (h.ent e he).keep fun g cur _ _ hB hne hh => ⟨far g (by omega), hne⟩
theorem Book.fill {g n cap : Nat} {xs : List Value} (h : Book w WB vI vM ls ms nk) (hvl : w.ownsRow (WB + 1) 3 1 (.slice (some ⟨g, 0, none⟩) n cap) n xs) (hs : ∀ m, Shares vM ls ms (.slice (some ⟨g, 0, none⟩) n cap) 0 m) (k : Nat) (u : Value) :
    Book (w.setCell ⟨g, k, none⟩ u) WB vI vM ls ms nk ∧ Kept WB w (w.setCell ⟨g, k, none⟩ u) := by
  obtain ⟨hB, cur, hh⟩ := own_typ hvl (g := g) rfl
  have far : ∀ k', k' ≠ g → (w.setCell ⟨g, k, none⟩ u).heap[k']? = w.heap[k']? := fun k' hk => Below.heap_setCell _ _ _ _ hk
  refine ⟨h.stay fun k' cs t hk ht => far k' fun e => ?_, rfl, rfl, rfl, by simp, fun k hk => far k (by omega), fun k cs t hk t1 t2 t3 => far k (typ_ne hk hh t3)⟩
  subst e
  rcases ht with rfl | rfl | ⟨rfl, hM | ⟨e, he, h1, h2⟩⟩
  · exact typ_ne hk hh (by decide) rfl
  · exact typ_ne hk hh (by decide) rfl
  · exact (hs 0 k' rfl).1 hM.symm
  · have := ((hs 0 k' rfl).2 e he h1 h2).2; omega
theorem Book.blk3 {v : Value} (h : Book w WB vI vM ls ms nk) (hv : ∀ g, v.ownBlock = some g → WB < g) (hat : (v.ownBlock = some g2 ∧ (w.alloc o).grownBy w3 (some g2)) ∨ (g2 = w.heap.size + 1 ∧ (w.alloc o).grownBy w3 none)) :
    w3.cell? ⟨WB, 1, none⟩ = some vI ∧ w3.cell? ⟨WB, 2, none⟩ = some vM ∧ w3.frozen? ⟨WB, 1, none⟩ = false ∧ w3.frozen? ⟨WB, 2, none⟩ = false := by
  have hb := (grown_at hat).2.2.2.2 WB h.lt fun e => by have := hv WB e.symm; omega
  have hb' : w3.heap[WB]? = some (.cells (bookCells vI vM nk) 32 (0, 0)) := by rw [hb]; exact h.blk
  simp [World.cell?, World.frozen?, hb', bookCells]
end

theorem fill_set {xs : List Value} {k : Nat} {u : Value} (h : k < xs.length) : (List.replicate k u ++ xs.drop k).set k u = List.replicate (k + 1) u ++ xs.drop (k + 1) := by
  rw [List.set_append_right _ _ (by simp), List.length_replicate, Nat.sub_self, List.replicate_succ', List.append_assoc]
  congr 1
  rw [List.drop_eq_getElem_cons h]
  rfl
theorem Shares.any {vM vl : Value} {ls : List Value} {ms : List Int} (h : ∀ m, Shares vM ls ms vl 0 m) (n : Nat) (m : Int) : Shares vM ls ms vl n m := fun g hg =>
  ⟨((h m) g hg).1, fun e he h1 h2 => ⟨(((h m) g hg).2 e he h1 h2).1, by have := (((h m) g hg).2 e he h1 h2).2; omega⟩⟩

set_option maxHeartbeats 4000000 in
theorem ints_any (WB : Nat) (vI vM : Value) (ls : List Value) (ms : List Int) (nk : Nat) (v : Value) (n : Nat) (xs : List Value) (w : World) (h : Book w WB vI vM ls ms nk) (hlen : ls.length = ms.length) (hl : ls.length ≤ 3703618116000) (hk : nk ≤ 925904529000)
    (hv : w.ownsRow (WB + 1) 3 1 v n xs) (hn : n ≤ 60) (hs : ∀ m, Shares vM ls ms v 0 m) :
    Calls Tryz.prog 46 #[.pointer (some ⟨WB, 1, none⟩), v] w fun e w' => e = .returned (.tuple #[]) ∧ ∃ vI' vM' ls' ms', Book w' WB vI' vM' ls' ms' (nk + 1) ∧ ls'.length = ms'.length ∧ ls'.length = ls.length + 4 ∧ Kept WB w w' := by
  obtain ⟨_, b1, b2, b3, b5, b7⟩ := h.cells
  have f7 := h.frozen 7
  have x0 : IntKind.i64.wrap ((nk : Int) + 1) = (nk : Int) + 1 := wrap_id (by omega) (by omega)
  have x1 : IntKind.i64.wrap (-1000 - ((nk : Int) + 1)) = -1000 - ((nk : Int) + 1) := wrap_id (by omega) (by omega)
  obtain ⟨hB1, hK1, hfar⟩ := h.bump
  have hv1 : (w.setCell ⟨WB, 7, none⟩ (.int .i64 ((nk : Int) + 1))).ownsRow (WB + 1) 3 1 v n xs := own_keep hv fun g hg => hfar g (by have := (own_typ hv hg).1; omega)
  obtain ⟨va, vc, rfl⟩ := own_anyW hv
  have hxs : xs.length = n := by have := hv.1; omega
  have HS : Hid (∀ m, Shares vM ls ms (.slice va n vc) 0 m) := hs
  obtain ⟨iI, hiI, hzI, hsI, hbI⟩ := info_parts infoSl
  obtain ⟨i0, hi0, hz0, hs0, hb0⟩ := info_parts info3
  clear hs h hv b1 b2 b3 b5 hfar
  go_enter Tryz.func46, Tryz.ntmps46
  go_wp2
  generalize hW : w.setCell ⟨WB, 7, none⟩ (.int .i64 ((nk : Int) + 1)) = W at *
  clear hW b7 f7 x0 x1
  generalize -1000 - ((nk : Int) + 1) = m at *
  go_loopw [5] (fun i wr => ∃ k : Nat, k ≤ n ∧ i = .int .i64 k ∧ Book wr WB vI vM ls ms (nk + 1) ∧ wr.ownsRow (WB + 1) 3 1 (.slice va n vc) n (List.replicate k (.int .i64 m) ++ xs.drop k) ∧ Kept WB w wr) (fun i _ => n - (intOf i).toNat)
  case atStart => exact ⟨0, by omega, rfl, hB1, by simpa using hv1, hK1⟩
  case round =>
    clear hB1 hK1 hv1
    obtain ⟨k, hkn, rfl, hB, hv, hK⟩ := hrel
    by_cases hlt : k < n
    · obtain ⟨g, rfl, hg, c0⟩ := own_place hv k hlt
      have f0 := hv.frozenAt k
      obtain ⟨hB', hK'⟩ := hB.fill hv HS.out k (.int .i64 m)
      have hv' := (hv.stored k (.int .i64 m)).1
      rw [fill_set (by omega)] at hv'
      have HB : Hid (Book (wr.setCell ⟨g, k, none⟩ (.int .i64 m)) WB vI vM ls ms (nk + 1)) := hB'
      have HV : Hid ((wr.setCell ⟨g, k, none⟩ (.int .i64 m)).ownsRow (WB + 1) 3 1 (.slice (some ⟨g, 0, none⟩) n vc) n (List.replicate (k + 1) (.int .i64 m) ++ xs.drop (k + 1))) := hv'
      have HK : Hid (Kept WB w (wr.setCell ⟨g, k, none⟩ (.int .i64 m))) := hK.trans hK'
      have c1 : ∃ u, wr.cell? ⟨g, k, none⟩ = some u := by
        rw [c0]
        have : k < (List.replicate k (Value.int .i64 m) ++ xs.drop k).length := by simp; omega
        exact ⟨_, List.getElem?_eq_getElem this⟩
      obtain ⟨u, c1⟩ := c1
      have y0 : (0 : Int) ≤ (k : Int) := by omega
      have y1 : (k : Int) < (n : Int) := by omega
      have y4 : IntKind.i64.wrap ((k : Int) + 1) = (k : Int) + 1 := wrap_id (by omega) (by omega)
      clear hB hv hK hB' hv' hK' c0
      go_wp2
      go_roundw
      case rel => exact ⟨k + 1, by omega, by go_num, HB.out, HV.out, HK.out⟩
      case measure => simp [intOf]; omega
    · have ek : k = n := by omega
      subst ek
      have hv2 : wr.ownsRow (WB + 1) 3 1 (.slice va k vc) k (List.replicate k (.int .i64 m)) := by
        rw [List.drop_eq_nil_of_le (by omega), List.append_nil] at hv
        exact hv
      clear hv
      go_wp2
      go_loopw [1, 6] (fun vl i wr => ∃ (k' n' : Nat) (vI vM : Value) (ls' : List Value) (ms' : List Int), k' ≤ 4 ∧ i = .int .i64 k' ∧ Book wr WB vI vM ls' ms' (nk + 1) ∧ ls'.length = ms'.length ∧ ls'.length = ls.length + k' ∧ n' ≤ k + k' ∧
        wr.ownsRow (WB + 1) 3 1 vl n' (List.replicate n' (.int .i64 m)) ∧ Shares vM ls' ms' vl n' m ∧ Kept WB w wr) (fun _ i _ => 4 - (intOf i).toNat)
      case atStart => exact ⟨0, k, vI, vM, ls, ms, by omega, rfl, hB, hlen, rfl, by omega, hv2, Shares.any HS.out k m, hK⟩
      case round =>
        clear hB hv2 hK HS
        obtain ⟨q, n', vI', vM', ls', ms', hq, rfl, hB, hlen', hll, hnn, hv, hs, hK⟩ := hrel
        have HLEN : Hid (ls'.length = ms'.length ∧ ls'.length = ls.length + q) := ⟨hlen', hll⟩
        have hb8 : ls'.length + 1 ≤ 3703618117000 := by omega
        have hm8 : ms'.length + 1 ≤ 3703618117000 := by omega
        clear hlen' hll
        by_cases hq4 : q < 4
        · obtain ⟨ia, ic, rfl⟩ := own_anyW hB.ownI
          obtain ⟨ma, mc, rfl⟩ := own_anyW hB.ownM
          obtain ⟨la, lc, rfl⟩ := own_anyW hv
          obtain ⟨_, b1, b2, _⟩ := hB.cells
          have hWB := hB.lt
          have y4 : IntKind.i64.wrap ((q : Int) + 1) = (q : Int) + 1 := wrap_id (by omega) (by omega)
          have y5 : (q : Int) < 4 := by omega
          go_wp2_with (at_builtin; refine wpList_append_where _ (by rfl) (.tmp 38) (.tmp 40) 25 (by rfl) (WB + 1) 26 iI (.slice none 0 0) 1 24 Tryz.underlying25 hiI hzI hsI hbI rfl (by decide) _ _ _ (by rfl) (own_below hB.ownI (below1 _ _)) ⟨wr.heap.size, 0, none⟩ 1 1 [.slice la n' lc] (by rfl) rfl ?c1 ?c2 (by decide) ?c3 ?c4 ?c5 (wr.heap.size + 1) ?c6 ?_)
          case c1 => exact cell_one_new _ _ _
          case c2 => intro u hu; simp at hu; subst hu; rfl
          case c3 => unfold maxLen; omega
          case c4 => omega
          case c5 => simp; omega
          case c6 => simp
          · intro g2 cap2 w3 hown3 hat3 hlt3
            obtain ⟨hB4, hu4, hK4⟩ := hB.putI HLEN.out.1 hown3 hat3
            obtain ⟨d1, d2, f1, f2⟩ := hB.blk3 (v := .slice ia ls'.length ic) (fun g hg => by have := (own_typ hB.ownI hg).1; omega) hat3
            have hv4 := own_keep hv (fun g hg => by
              obtain ⟨hb, cur, hh⟩ := own_typ hv hg
              exact hu4 g cur _ hh (by omega) (by decide))
            have hs4 : Shares (.slice ma ms'.length mc) (ls' ++ [.slice la n' lc]) ms' (.slice la n' lc) n' m := by
              intro g hg
              rw [zip_more ls' ms' _ HLEN.out.1]
              exact hs g hg
            have hK4' := hK.trans hK4
            clear hB hv hs hK hK4 hu4 hown3 hat3 b1 b2
            have hsz : (w3.setCell ⟨WB, 1, none⟩ (.slice (some ⟨g2, 0, none⟩) (ls'.length + 1) cap2)).heap.size = w3.heap.size := by simp
            have hn1 := cell_one_new (w3.setCell ⟨WB, 1, none⟩ (.slice (some ⟨g2, 0, none⟩) (ls'.length + 1) cap2)) (.int .i64 m) 3
            rw [hsz] at hn1
            have hWB3 : WB < w3.heap.size := by have := hB4.lt; omega
            go_wp2_with (at_builtin; refine wpList_append_where _ (by rfl) (.tmp 48) (.tmp 50) 26 (by rfl) (WB + 1) 3 i0 (.int .i64 0) 1 8 Tryz.underlying26 hi0 hz0 hs0 hb0 rfl (by decide) _ _ _ (by rfl) (own_below hB4.ownM (below1 _ _)) ⟨w3.heap.size, 0, none⟩ 1 1 [.int .i64 m] (by rfl) rfl hn1 ?c2 (by decide) ?c3 ?c4 ?c5 (w3.heap.size + 1) ?c6 ?_)
            case c2 => intro u hu; simp at hu; subst hu; rfl
            case c3 => unfold maxLen; omega
            case c4 => omega
            case c5 => simp; omega
            case c6 => simp
            · intro g3 cap3 w5 hown5 hat5 hlt5
              rw [← hsz] at hat5
              have hent := ent_of_own hv4 (fun g hg => (hs4 g hg).1)
              obtain ⟨hB6, hu6, hK6⟩ := hB4.putM HLEN.out.1 hent hown5 hat5
              obtain ⟨d1', d2', f1', f2'⟩ := hB4.blk3 (v := .slice ma ms'.length mc) (fun g hg => by have := (own_typ hB4.ownM hg).1; omega) hat5
              have hfar6 : ∀ g, (Value.slice la n' lc).ownBlock = some g → (w5.setCell ⟨WB, 2, none⟩ (.slice (some ⟨g3, 0, none⟩) (ms'.length + 1) cap3)).heap[g]? = (w3.setCell ⟨WB, 1, none⟩ (.slice (some ⟨g2, 0, none⟩) (ls'.length + 1) cap2)).heap[g]? ∧ some g ≠ some g3 := fun g hg => by
                obtain ⟨hb, cur, hh⟩ := own_typ hv4 hg
                exact hu6 g cur _ hh (by omega) (hs4 g hg).1
              have hv6 := own_keep hv4 (fun g hg => (hfar6 g hg).1)
              have hs6 : Shares (.slice (some ⟨g3, 0, none⟩) (ms'.length + 1) cap3) (ls' ++ [.slice la n' lc]) (ms' ++ [m]) (.slice la n' lc) n' m := by
                intro g hg
                refine ⟨(hfar6 g hg).2, fun e he h1 h2 => ?_⟩
                rw [List.zip_append HLEN.out.1] at he
                rcases List.mem_append.1 he with he | he
                · have := hs4 g hg
                  rw [zip_more ls' ms' _ HLEN.out.1] at this
                  exact this.2 e he h1 h2
                · simp at he
                  subst he
                  exact ⟨rfl, Nat.le_refl _⟩
              have hK6' := hK4'.trans hK6
              clear hB4 hv4 hs4 hK4' hK6 hu6 hown5 hat5 hent hn1 hfar6
              have hsz6 : (w5.setCell ⟨WB, 2, none⟩ (.slice (some ⟨g3, 0, none⟩) (ms'.length + 1) cap3)).heap.size = w5.heap.size := by simp
              have hn6 := cell_one_new (w5.setCell ⟨WB, 2, none⟩ (.slice (some ⟨g3, 0, none⟩) (ms'.length + 1) cap3)) (.int .i64 m) 3
              rw [hsz6] at hn6
              have hWB5 : WB < w5.heap.size := by have := hB6.lt; omega
              go_wp2_with (at_builtin; refine wpList_append_where _ (by rfl) (.tmp 54) (.tmp 56) 26 (by rfl) (WB + 1) 3 i0 (.int .i64 0) 1 8 Tryz.underlying26 hi0 hz0 hs0 hb0 rfl (by decide) _ _ _ (by rfl) (own_below hv6 (below1 _ _)) ⟨w5.heap.size, 0, none⟩ 1 1 [.int .i64 m] (by rfl) rfl hn6 ?c2 (by decide) ?c3 ?c4 ?c5 (w5.heap.size + 1) ?c6 ?_)
              case c2 => intro u hu; simp at hu; subst hu; rfl
              case c3 => unfold maxLen; omega
              case c4 => omega
              case c5 => simp; omega
              case c6 => simp
              · intro g4 cap4 w7 hown7 hat7 hlt7
                rw [← hsz6] at hat7
                obtain ⟨hB8, hs8, hK8⟩ := hB6.putL hv6 hs6 hown7 hat7
                have hK8' := hK6'.trans hK8
                rw [← List.replicate_succ'] at hown7
                clear hB6 hv6 hs6 hK6' hK8 hat7 hn6
                go_wp2
                go_roundw
                case rel => exact ⟨q + 1, n' + 1, _, _, _, _, by omega, by go_num, hB8, by simp [HLEN.out.1], by simp [HLEN.out.2]; omega, by omega, hown7, hs8, hK8'⟩
                case measure => simp [intOf]; omega
        · have : q = 4 := by omega
          subst this
          have HR : Hid (∃ vI' vM' ls' ms', Book wr WB vI' vM' ls' ms' (nk + 1) ∧ ls'.length = ms'.length ∧ ls'.length = ls.length + 4 ∧ Kept WB w wr) := ⟨vI', vM', ls', ms', hB, HLEN.out.1, HLEN.out.2, hK⟩
          clear hB hv hs hK
          go_wp2
          go_end0
          exact ⟨rfl, HR.out⟩

end Go.Proofs.YtgpapegpdfonpaaGreatDoor
