/-
  The statement's book of lists that came out: what is known of it, and how it stays.
-/
import Derived.Test.YtgpapegpdfonpaaGreatDoorLawA
import Derived.Test.YtgpapegpdfonpaaGreatDoorOwnA
namespace Go.Proofs.YtgpapegpdfonpaaGreatDoor
set_option linter.unusedVariables false
set_option linter.unusedSimpArgs false
open Go.RowKit
attribute [local go_sem ↓] Go.wp_at_zero Go.wp_at_succ

/-! ### the book -/
def bookCells (vI vM : Value) (nk : Nat) : Array Value := #[.slice none 0 0, vI, vM, .slice none 0 0, .slice none 0 0, .slice none 0 0, .slice none 0 0, .int .i64 (nk : Int)]
/-- a list that came out: all over with its mark -/
def EntW (w : World) (WB : Nat) (vM v : Value) (m : Int) : Prop :=
  ∃ a n c, v = .slice a n c ∧ n ≤ maxLen ∧ (n = 0 ∨ ∃ g cur, a = some ⟨g, 0, none⟩ ∧ WB < g ∧ some g ≠ vM.ownBlock ∧ w.heap[g]? = some (.cells cur 3 (0, 0)) ∧ ∀ k, k < n → cur[k]? = some (.int .i64 m))
structure Book (w : World) (WB : Nat) (vI vM : Value) (ls : List Value) (ms : List Int) (nk : Nat) : Prop where
  blk : w.heap[WB]? = some (.cells (bookCells vI vM nk) 32 (0, 0))
  ownI : w.ownsRow (WB + 1) 26 1 vI ls.length ls
  ownM : w.ownsRow (WB + 1) 3 1 vM ms.length (ms.map (.int .i64))
  ent : ∀ e ∈ ls.zip ms, EntW w WB vM e.1 e.2

theorem zip_more {α β : Type} (ls : List α) : ∀ (ms : List β) (v : α), ls.length = ms.length → (ls ++ [v]).zip ms = ls.zip ms := by
  induction ls with
  | nil => intro ms v h; cases ms with
    | nil => rfl
    | cons m ms => simp at h
  | cons x ls ih => intro ms v h; cases ms with
    | nil => simp at h
    | cons m ms => simp at h ⊢; exact ih ms v h
theorem own_typ {w : World} {base : Nat} {e : TypeId} {v : Value} {n g : Nat} {xs : List Value} (h : w.ownsRow base e 1 v n xs) (hg : v.ownBlock = some g) : base ≤ g ∧ ∃ cur, w.heap[g]? = some (.cells cur e (0, 0)) := by
  rcases h.2 with ⟨rfl, _⟩ | ⟨g0, cap, cur, rfl, hb, hh, _⟩
  · cases hg
  · cases hg; exact ⟨hb, cur, hh⟩
theorem own_keep {w w' : World} {base : Nat} {e : TypeId} {v : Value} {n : Nat} {xs : List Value} (h : w.ownsRow base e 1 v n xs) (hk : ∀ g, v.ownBlock = some g → w'.heap[g]? = w.heap[g]?) : w'.ownsRow base e 1 v n xs := by
  refine ⟨h.1, ?_⟩
  rcases h.2 with hn | ⟨g0, cap, cur, rfl, hb, hh, r⟩
  · exact .inl hn
  · exact .inr ⟨g0, cap, cur, rfl, hb, by rw [hk g0 rfl]; exact hh, r⟩
theorem EntW.keep {w w' : World} {WB : Nat} {vM vM' v : Value} {m : Int} (h : EntW w WB vM v m)
    (hk : ∀ g cur, v.ownBlock = some g → 0 < lenV v → WB < g → some g ≠ vM.ownBlock → w.heap[g]? = some (.cells cur 3 (0, 0)) → w'.heap[g]? = w.heap[g]? ∧ some g ≠ vM'.ownBlock) : EntW w' WB vM' v m := by
  obtain ⟨a, n, c, rfl, hmx, h⟩ := h
  refine ⟨a, n, c, rfl, hmx, ?_⟩
  rcases h with h | ⟨g, cur, rfl, hB, hne, hh, hc⟩
  · exact .inl h
  · by_cases h0 : n = 0
    · exact .inl h0
    · obtain ⟨e1, e2⟩ := hk g cur rfl (by simp [lenV]; omega) hB hne hh
      exact .inr ⟨g, cur, rfl, hB, e2, by rw [e1]; exact hh, hc⟩
theorem Book.lt {w : World} {WB : Nat} {vI vM : Value} {ls : List Value} {ms : List Int} {nk : Nat} (h : Book w WB vI vM ls ms nk) : WB < w.heap.size := lt_some h.blk
/-- it stays where its blocks stay -/
theorem Book.stay {w w' : World} {WB : Nat} {vI vM : Value} {ls : List Value} {ms : List Int} {nk : Nat} (h : Book w WB vI vM ls ms nk)
    (hk : ∀ k cs t, w.heap[k]? = some (.cells cs t (0, 0)) → (t = 32 ∨ t = 26 ∨ (t = 3 ∧ (vM.ownBlock = some k ∨ ∃ e ∈ ls.zip ms, e.1.ownBlock = some k ∧ 0 < lenV e.1))) → w'.heap[k]? = w.heap[k]?) : Book w' WB vI vM ls ms nk := by
  refine ⟨by rw [hk _ _ _ h.blk (.inl rfl)]; exact h.blk, own_keep h.ownI fun g hg => ?_, own_keep h.ownM fun g hg => ?_, fun e he => (h.ent e he).keep fun g cur hg h0 _ hne hh => ⟨hk _ _ _ hh (.inr (.inr ⟨rfl, .inr ⟨e, he, hg, h0⟩⟩)), hne⟩⟩
  · obtain ⟨_, cur, hh⟩ := own_typ h.ownI hg; exact hk _ _ _ hh (.inr (.inl rfl))
  · obtain ⟨_, cur, hh⟩ := own_typ h.ownM hg; exact hk _ _ _ hh (.inr (.inr ⟨rfl, .inl hg⟩))
theorem Book.below {w w' : World} {WB : Nat} {vI vM : Value} {ls : List Value} {ms : List Int} {nk : Nat} (h : Book w WB vI vM ls ms nk) (hb : Below w.heap.size w w') : Book w' WB vI vM ls ms nk :=
  h.stay fun k cs t hk _ => hb.block k (lt_some hk)
theorem Book.grown {w w' : World} {WB g : Nat} {vI vM : Value} {ls : List Value} {ms : List Int} {nk : Nat} (h : Book w WB vI vM ls ms nk) {l : List Pt} (hr : RowP w g l) (hb : w.grownBy w' (some g)) : Book w' WB vI vM ls ms nk :=
  h.stay fun k cs t hk ht => hb.block k (lt_some hk) fun e => by
    cases e
    refine typ_ne hk hr (fun e => ?_) rfl
    subst e
    rcases ht with e | e | ⟨e, _⟩ <;> exact absurd e (by decide)

/-- what a step leaves: the blocks below the book's, and all blocks of other types -/
structure Kept (WB : Nat) (w w' : World) : Prop where
  os : w'.os = w.os
  tape : w'.tape = w.tape
  output : w'.output = w.output
  size : w.heap.size ≤ w'.heap.size
  low : ∀ k, k < WB → w'.heap[k]? = w.heap[k]?
  other : ∀ (k : Nat) (cs : Array Value) (t : TypeId), w.heap[k]? = some (.cells cs t (0, 0)) → t ≠ 32 → t ≠ 26 → t ≠ 3 → w'.heap[k]? = w.heap[k]?
theorem Kept.refl (WB : Nat) (w : World) : Kept WB w w := ⟨rfl, rfl, rfl, Nat.le_refl _, fun _ _ => rfl, fun _ _ _ _ _ _ _ => rfl⟩
theorem Kept.trans {WB : Nat} {a b c : World} (h : Kept WB a b) (k : Kept WB b c) : Kept WB a c :=
  ⟨k.os.trans h.os, k.tape.trans h.tape, k.output.trans h.output, Nat.le_trans h.size k.size, fun i hi => (k.low i hi).trans (h.low i hi), fun i cs t hi h1 h2 h3 => by
    have e := h.other i cs t hi h1 h2 h3
    rw [k.other i cs t (by rw [e]; exact hi) h1 h2 h3, e]⟩
theorem Kept.below {WB : Nat} {w w' : World} (h : Kept WB w w') : Below WB w w' := ⟨h.os, h.tape, h.output, h.size, h.low⟩

section
variable {w w3 : World} {WB g2 cap2 nk : Nat} {vI vM : Value} {ls : List Value} {ms : List Int} {o : Obj}

theorem grown_at {v : Value} (hat : (v.ownBlock = some g2 ∧ (w.alloc o).grownBy w3 (some g2)) ∨ (g2 = w.heap.size + 1 ∧ (w.alloc o).grownBy w3 none)) :
    w3.os = w.os ∧ w3.tape = w.tape ∧ w3.output = w.output ∧ w.heap.size ≤ w3.heap.size ∧ ∀ k, k < w.heap.size → some k ≠ v.ownBlock → w3.heap[k]? = w.heap[k]? := by
  have key : ∀ r, (w.alloc o).grownBy w3 r → w3.os = w.os ∧ w3.tape = w.tape ∧ w3.output = w.output ∧ w.heap.size ≤ w3.heap.size ∧ ∀ k, k < w.heap.size → some k ≠ r → w3.heap[k]? = w.heap[k]? := fun r h => by
    have hs := h.size
    simp at hs
    refine ⟨h.os, h.tape, h.output, by omega, fun k hk hr => ?_⟩
    rw [h.block k (by simp; omega) hr, Below.heap_alloc w o k hk]
  rcases hat with ⟨hv, h⟩ | ⟨_, h⟩
  · rw [hv]; exact key _ h
  · obtain ⟨a, b, c, d, e⟩ := key _ h
    exact ⟨a, b, c, d, fun k hk _ => e k hk (by simp)⟩

/-- one list more -/
theorem Book.putI {vl : Value} (h : Book w WB vI vM ls ms nk) (hlen : ls.length = ms.length)
    (hown : w3.ownsRow (WB + 1) 26 1 (.slice (some ⟨g2, 0, none⟩) (ls.length + 1) cap2) (ls.length + 1) (ls ++ [vl]))
    (hat : (vI.ownBlock = some g2 ∧ (w.alloc o).grownBy w3 (some g2)) ∨ (g2 = w.heap.size + 1 ∧ (w.alloc o).grownBy w3 none)) :
    Book (w3.setCell ⟨WB, 1, none⟩ (.slice (some ⟨g2, 0, none⟩) (ls.length + 1) cap2)) WB (.slice (some ⟨g2, 0, none⟩) (ls.length + 1) cap2) vM (ls ++ [vl]) ms nk ∧
    (∀ k cs t, w.heap[k]? = some (.cells cs t (0, 0)) → k ≠ WB → t ≠ 26 → (w3.setCell ⟨WB, 1, none⟩ (.slice (some ⟨g2, 0, none⟩) (ls.length + 1) cap2)).heap[k]? = w.heap[k]?) ∧
    Kept WB w (w3.setCell ⟨WB, 1, none⟩ (.slice (some ⟨g2, 0, none⟩) (ls.length + 1) cap2)) := by
  obtain ⟨e1, e2, e3, e4, e5⟩ := grown_at hat
  have hWB := h.lt
  have hg2 : WB < g2 := by have := (own_typ hown (g := g2) rfl).1; omega
  have hWI : some WB ≠ vI.ownBlock := fun e => by have := (own_typ h.ownI e.symm).1; omega
  have hblk : w3.heap[WB]? = some (.cells (bookCells vI vM nk) 32 (0, 0)) := by rw [e5 WB hWB hWI]; exact h.blk
  generalize hv : Value.slice (some ⟨g2, 0, none⟩) (ls.length + 1) cap2 = v' at *
  have unch : ∀ k cs t, w.heap[k]? = some (.cells cs t (0, 0)) → k ≠ WB → t ≠ 26 → (w3.setCell ⟨WB, 1, none⟩ v').heap[k]? = w.heap[k]? := fun k cs t hk hne ht => by
    rw [Below.heap_setCell _ _ _ _ hne]
    refine e5 k (lt_some hk) fun e => ?_
    obtain ⟨_, cur, hh⟩ := own_typ h.ownI e.symm
    exact typ_ne hk hh ht rfl
  refine ⟨⟨?_, ?_, ?_, ?_⟩, unch, e1, e2, e3, by simpa using e4, fun k hk => ?_, fun k cs t hk t1 t2 t3 => ?_⟩
  · rw [heap_setCell_same w3 WB 1 _ _ _ hblk]; rfl
  · have := own_keep (w' := w3.setCell ⟨WB, 1, none⟩ v') hown fun g hg => by
      subst hv
      cases hg
      exact Below.heap_setCell _ _ _ _ (by simp; omega)
    rw [List.length_append]
    exact this
  · refine own_keep h.ownM fun g hg => ?_
    obtain ⟨hb, cur, hh⟩ := own_typ h.ownM hg
    exact unch g cur _ hh (by omega) (by decide)
  · intro e he
    rw [zip_more ls ms vl hlen] at he
    exact (h.ent e he).keep fun g cur _ _ hB hne hh => ⟨unch g cur _ hh (by omega) (by decide), hne⟩
  · rw [Below.heap_setCell _ _ _ _ (by simp; omega)]
    refine e5 k (by omega) fun e => ?_
    have := (own_typ h.ownI e.symm).1
    omega
  · exact unch k _ _ hk (typ_ne hk h.blk t1) t2

/-- one mark more -/
theorem Book.putM {vl : Value} {m : Int} (h : Book w WB vI vM (ls ++ [vl]) ms nk) (hlen : ls.length = ms.length) (hent : EntW w WB vM vl m)
    (hown : w3.ownsRow (WB + 1) 3 1 (.slice (some ⟨g2, 0, none⟩) (ms.length + 1) cap2) (ms.length + 1) (ms.map (.int .i64) ++ [.int .i64 m]))
    (hat : (vM.ownBlock = some g2 ∧ (w.alloc o).grownBy w3 (some g2)) ∨ (g2 = w.heap.size + 1 ∧ (w.alloc o).grownBy w3 none)) :
    Book (w3.setCell ⟨WB, 2, none⟩ (.slice (some ⟨g2, 0, none⟩) (ms.length + 1) cap2)) WB vI (.slice (some ⟨g2, 0, none⟩) (ms.length + 1) cap2) (ls ++ [vl]) (ms ++ [m]) nk ∧
    (∀ k cs t, w.heap[k]? = some (.cells cs t (0, 0)) → k ≠ WB → some k ≠ vM.ownBlock → (w3.setCell ⟨WB, 2, none⟩ (.slice (some ⟨g2, 0, none⟩) (ms.length + 1) cap2)).heap[k]? = w.heap[k]? ∧ some k ≠ some g2) ∧
    Kept WB w (w3.setCell ⟨WB, 2, none⟩ (.slice (some ⟨g2, 0, none⟩) (ms.length + 1) cap2)) := by
  obtain ⟨e1, e2, e3, e4, e5⟩ := grown_at hat
  have hWB := h.lt
  have hg2 : WB < g2 := by have := (own_typ hown (g := g2) rfl).1; omega
  have hWI : some WB ≠ vM.ownBlock := fun e => by have := (own_typ h.ownM e.symm).1; omega
  have hblk : w3.heap[WB]? = some (.cells (bookCells vI vM nk) 32 (0, 0)) := by rw [e5 WB hWB hWI]; exact h.blk
  have hnew : ∀ k, k < w.heap.size → some k ≠ vM.ownBlock → some k ≠ some g2 := fun k hk hne e => by
    rcases hat with ⟨hv, _⟩ | ⟨hv, _⟩
    · exact hne (by rw [hv]; exact e)
    · cases e; omega
  generalize hv : Value.slice (some ⟨g2, 0, none⟩) (ms.length + 1) cap2 = v' at *
  have hvb : v'.ownBlock = some g2 := by rw [← hv]; rfl
  have unch : ∀ k cs t, w.heap[k]? = some (.cells cs t (0, 0)) → k ≠ WB → some k ≠ vM.ownBlock → (w3.setCell ⟨WB, 2, none⟩ v').heap[k]? = w.heap[k]? ∧ some k ≠ some g2 := fun k cs t hk hne hM => by
    rw [Below.heap_setCell _ _ _ _ hne]
    exact ⟨e5 k (lt_some hk) hM, hnew k (lt_some hk) hM⟩
  refine ⟨⟨?_, ?_, ?_, ?_⟩, unch, e1, e2, e3, by simpa using e4, fun k hk => ?_, fun k cs t hk t1 t2 t3 => ?_⟩
  · rw [heap_setCell_same w3 WB 2 _ _ _ hblk]; rfl
  · refine own_keep h.ownI fun g hg => ?_
    obtain ⟨hb, cur, hh⟩ := own_typ h.ownI hg
    refine (unch g cur _ hh (by omega) fun e => ?_).1
    obtain ⟨_, cur', hh'⟩ := own_typ h.ownM e.symm
    exact typ_ne hh hh' (by decide) rfl
  · have := own_keep (w' := w3.setCell ⟨WB, 2, none⟩ v') hown fun g hg => by
      rw [hvb] at hg
      cases hg
      exact Below.heap_setCell _ _ _ _ (by simp; omega)
    rw [List.length_append, List.map_append]
    exact this
  · intro e he
    rw [List.zip_append hlen] at he
    have key : ∀ v q, EntW w WB vM v q → EntW (w3.setCell ⟨WB, 2, none⟩ v') WB v' v q := fun v q hv => hv.keep fun g cur _ _ hB hne hh => by
      rw [hvb]; exact unch g cur _ hh (by omega) hne
    rcases List.mem_append.1 he with he | he
    · refine key _ _ (h.ent e ?_)
      rw [zip_more ls ms vl hlen]; exact he
    · simp at he
      subst he
      exact key _ _ hent
  · rw [Below.heap_setCell _ _ _ _ (by simp; omega)]
    refine e5 k (by omega) fun e => ?_
    have := (own_typ h.ownM e.symm).1
    omega
  · refine (unch k _ _ hk (typ_ne hk h.blk t1) fun e => ?_).1
    obtain ⟨_, cur', hh'⟩ := own_typ h.ownM e.symm
    exact typ_ne hk hh' t3 rfl

/-- what a list that is about to be written shares with the book -/
def Shares (vM : Value) (ls : List Value) (ms : List Int) (vl : Value) (n : Nat) (m : Int) : Prop :=
  ∀ g, vl.ownBlock = some g → some g ≠ vM.ownBlock ∧ ∀ e ∈ ls.zip ms, e.1.ownBlock = some g → 0 < lenV e.1 → e.2 = m ∧ lenV e.1 ≤ n

/-- the list itself, longer by one -/
theorem Book.putL {vl : Value} {n : Nat} {m : Int} (h : Book w WB vI vM ls ms nk) (hvl : w.ownsRow (WB + 1) 3 1 vl n (List.replicate n (.int .i64 m))) (hs : Shares vM ls ms vl n m)
    (hown : w3.ownsRow (WB + 1) 3 1 (.slice (some ⟨g2, 0, none⟩) (n + 1) cap2) (n + 1) (List.replicate n (.int .i64 m) ++ [.int .i64 m]))
    (hat : (vl.ownBlock = some g2 ∧ (w.alloc o).grownBy w3 (some g2)) ∨ (g2 = w.heap.size + 1 ∧ (w.alloc o).grownBy w3 none)) :
    Book w3 WB vI vM ls ms nk ∧ Shares vM ls ms (.slice (some ⟨g2, 0, none⟩) (n + 1) cap2) (n + 1) m ∧ Kept WB w w3 := by
  obtain ⟨e1, e2, e3, e4, e5⟩ := grown_at hat
  have far : ∀ k cs, w.heap[k]? = some (.cells cs 3 (0, 0)) → vM.ownBlock = some k → some k ≠ vl.ownBlock := fun k cs hk hM e => (hs k e.symm).1 hM.symm
  have fart : ∀ k cs t, w.heap[k]? = some (.cells cs t (0, 0)) → t ≠ 3 → some k ≠ vl.ownBlock := fun k cs t hk ht e => by
    obtain ⟨_, cur', hh'⟩ := own_typ hvl e.symm
    exact typ_ne hk hh' ht rfl
  refine ⟨⟨?_, ?_, ?_, ?_⟩, ?_, e1, e2, e3, e4, fun k hk => ?_, fun k cs t hk t1 t2 t3 => ?_⟩
  · rw [e5 WB h.lt (fart _ _ _ h.blk (by decide))]; exact h.blk
  · refine own_keep h.ownI fun g hg => ?_
    obtain ⟨hb, cur, hh⟩ := own_typ h.ownI hg
    exact e5 g (lt_some hh) (fart _ _ _ hh (by decide))
  · refine own_keep h.ownM fun g hg => ?_
    obtain ⟨hb, cur, hh⟩ := own_typ h.ownM hg
    exact e5 g (lt_some hh) (far _ _ hh hg)
  · intro e he
    obtain ⟨a, ne, c, hv, hmx, hE⟩ := h.ent e he
    refine ⟨a, ne, c, hv, hmx, ?_⟩
    rcases hE with h0 | ⟨g, cur, rfl, hB, hne, hh, hc⟩
    · exact .inl h0
    by_cases h0 : ne = 0
    · exact .inl h0
    right
    have hl : lenV e.1 = ne := by rw [hv]; rfl
    have hob : e.1.ownBlock = some g := by rw [hv]; rfl
    by_cases hg : some g = vl.ownBlock
    · obtain ⟨_, hsh⟩ := hs g hg.symm
      obtain ⟨hm, hle⟩ := hsh e he hob (by omega)
      rcases hat with ⟨hg2, _⟩ | ⟨_, hnone⟩
      · rw [← hg] at hg2
        have hg2' : g = g2 := by simpa using hg2
        subst hg2'
        rcases hown.2 with ⟨hn, _⟩ | ⟨g', cap', cur', hv', hb', hh', h1', h2', h3', h4'⟩
        · cases hn
        · cases hv'
          refine ⟨g, cur', rfl, hB, hne, hh', fun k hk => ?_⟩
          have e : (List.replicate n (Value.int .i64 m) ++ [.int .i64 m])[k]? = some (.int .i64 m) := by
            rw [← List.replicate_succ']
            rw [List.getElem?_replicate, if_pos (by omega)]
          rw [← h4', List.getElem?_take] at e
          split at e
          · rw [hm]; simpa using e
          · cases e
      · refine ⟨g, cur, rfl, hB, hne, ?_, hc⟩
        rw [hnone.block g (by have := lt_some hh; simp; omega) (by simp), Below.heap_alloc w o g (lt_some hh)]
        exact hh
    · exact ⟨g, cur, rfl, hB, hne, by rw [e5 g (lt_some hh) hg]; exact hh, hc⟩
  · intro g hg
    cases hg
    rcases hat with ⟨hg2, _⟩ | ⟨hg2, _⟩
    · obtain ⟨a, b⟩ := hs _ hg2
      exact ⟨a, fun e he h1 h2 => ⟨(b e he h1 h2).1, by have := (b e he h1 h2).2; omega⟩⟩
    · refine ⟨fun e => ?_, fun e he h1 h2 => ?_⟩
      · obtain ⟨_, cur', hh'⟩ := own_typ h.ownM e.symm
        have : g2 < w.heap.size := lt_some hh'
        omega
      · obtain ⟨a, ne, c, hv, _, hE⟩ := h.ent e he
        rw [hv] at h1 h2
        rcases hE with rfl | ⟨g, cur, rfl, hB, hne, hh, hc⟩
        · simp [lenV] at h2
        · cases h1
          have : g2 < w.heap.size := lt_some hh
          omega
  · refine e5 k (by have := h.lt; omega) fun e => ?_
    have := (own_typ hvl e.symm).1
    omega
  · exact e5 k (lt_some hk) (fart _ _ _ hk t3)

/-- the list as it is: an entry -/
theorem ent_of_own {vl : Value} {n : Nat} {m : Int} (hvl : w.ownsRow (WB + 1) 3 1 vl n (List.replicate n (.int .i64 m))) (hne : ∀ g, vl.ownBlock = some g → some g ≠ vM.ownBlock) : EntW w WB vM vl m := by
  rcases hvl.2 with ⟨rfl, rfl⟩ | ⟨g, cap, cur, rfl, hb, hh, h1, h2, h3, h4⟩
  · exact ⟨none, 0, 0, rfl, Nat.zero_le _, .inl rfl⟩
  · refine ⟨_, n, cap, rfl, by omega, .inr ⟨g, cur, rfl, by omega, hne g rfl, hh, fun k hk => ?_⟩⟩
    have e : (List.replicate n (Value.int .i64 m))[k]? = some (.int .i64 m) := by rw [List.getElem?_replicate, if_pos hk]
    rw [← h4, List.getElem?_take] at e
    split at e
    · simpa using e
    · cases e
end

end Go.Proofs.YtgpapegpdfonpaaGreatDoor
