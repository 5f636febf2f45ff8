/-
  The statement's book, whole: three shelves of lists that came out, kept apart by the owners of blocks.
-/
import Derived.Test.YtgpapegpdfonpaaGreatDoorLawBD
namespace Go.Proofs.YtgpapegpdfonpaaGreatDoor
set_option linter.unusedVariables false
set_option linter.unusedSimpArgs false
open Go.RowKit
attribute [local go_sem ↓] Go.wp_at_zero Go.wp_at_succ

/-! ### the shelves -/
structure Sh where
  vL : Value
  vM : Value
  ls : List Value
  ms : List Int
def tLf : Nat → TypeId
  | 0 => 26
  | 1 => 42
  | _ => 41
def tEf : Nat → TypeId
  | 0 => 3
  | 1 => 53
  | _ => 37
def szf : Nat → Nat
  | 0 => 1
  | 1 => 3
  | _ => 2
theorem szf_pos (j : Nat) : 0 < szf j := by
  match j with
  | 0 => decide
  | 1 => decide
  | _ + 2 => exact Nat.zero_lt_succ _
theorem tLE (j k : Nat) : tLf j ≠ tEf k := by
  match j, k with
  | 0, 0 => decide
  | 0, 1 => decide
  | 0, _ + 2 => show (26 : TypeId) ≠ 37; decide
  | 1, 0 => decide
  | 1, 1 => decide
  | 1, _ + 2 => show (42 : TypeId) ≠ 37; decide
  | _ + 2, 0 => show (41 : TypeId) ≠ 3; decide
  | _ + 2, 1 => show (41 : TypeId) ≠ 53; decide
  | _ + 2, _ + 2 => show (41 : TypeId) ≠ 37; decide
theorem tLI (j : Nat) : tLf j ≠ 3 := tLE j 0
def EntS (w : World) (tag : Nat → Nat) (i : Nat) (tE : TypeId) (s : Nat) (vM v : Value) (m : Int) : Prop :=
  ∃ a n c, v = .slice a n c ∧ n ≤ maxLen ∧ (n = 0 ∨ ∃ g cur, a = some ⟨g, 0, none⟩ ∧ tag g = i ∧ some g ≠ vM.ownBlock ∧ w.heap[g]? = some (.cells cur tE (0, 0)) ∧ ∀ k, k < n * s → cur[k]? = some (.int .i64 m))
structure Shelf (w : World) (tag : Nat → Nat) (i : Nat) (tL tE : TypeId) (s : Nat) (x : Sh) : Prop where
  ownL : w.ownsRow 0 tL 1 x.vL x.ls.length x.ls
  ownM : w.ownsRow 0 3 1 x.vM x.ms.length (x.ms.map (.int .i64))
  inL : ∀ g, x.vL.ownBlock = some g → tag g = i
  inM : ∀ g, x.vM.ownBlock = some g → tag g = i
  ent : ∀ e ∈ x.ls.zip x.ms, EntS w tag i tE s x.vM e.1 e.2
theorem EntS.keep {w w' : World} {tag tag' : Nat → Nat} {i s : Nat} {tE : TypeId} {vM vM' v : Value} {m : Int} (h : EntS w tag i tE s vM v m)
    (hk : ∀ g cur, v.ownBlock = some g → 0 < lenV v → tag g = i → some g ≠ vM.ownBlock → w.heap[g]? = some (.cells cur tE (0, 0)) → w'.heap[g]? = w.heap[g]? ∧ tag' g = i ∧ some g ≠ vM'.ownBlock) : EntS w' tag' i tE s vM' v m := by
  obtain ⟨a, n, c, rfl, hmx, h⟩ := h
  refine ⟨a, n, c, rfl, hmx, ?_⟩
  rcases h with h | ⟨g, cur, rfl, ht, hne, hh, hc⟩
  · exact .inl h
  · by_cases h0 : n = 0
    · exact .inl h0
    · obtain ⟨e1, e2, e3⟩ := hk g cur rfl (by simp [lenV]; omega) ht hne hh
      exact .inr ⟨g, cur, rfl, e2, e3, by rw [e1]; exact hh, hc⟩
theorem Shelf.keep {w w' : World} {tag tag' : Nat → Nat} {i s : Nat} {tL tE : TypeId} {x : Sh} (h : Shelf w tag i tL tE s x) (hk : ∀ k, k < w.heap.size → tag k = i → w'.heap[k]? = w.heap[k]? ∧ tag' k = i) : Shelf w' tag' i tL tE s x := by
  refine ⟨own_keep h.ownL fun g hg => (hk g (ownS_lt h.ownL hg) (h.inL g hg)).1, own_keep h.ownM fun g hg => (hk g (ownS_lt h.ownM hg) (h.inM g hg)).1, fun g hg => (hk g (ownS_lt h.ownL hg) (h.inL g hg)).2, fun g hg => (hk g (ownS_lt h.ownM hg) (h.inM g hg)).2, fun e he => (h.ent e he).keep fun g cur _ _ ht hne hh => ?_⟩
  obtain ⟨e1, e2⟩ := hk g (lt_some hh) ht
  exact ⟨e1, e2, hne⟩

/-! ### the book -/
def bkCells (v0 : Value) (sh : Nat → Sh) (nk : Nat) : Array Value := #[v0, (sh 0).vL, (sh 0).vM, (sh 1).vL, (sh 1).vM, (sh 2).vL, (sh 2).vM, .int .i64 (nk : Int)]
def updS (sh : Nat → Sh) (j : Nat) (x : Sh) : Nat → Sh := fun k => if k = j then x else sh k
theorem updS_same (sh : Nat → Sh) (j : Nat) (x : Sh) : updS sh j x j = x := by simp [updS]
theorem updS_other (sh : Nat → Sh) {j k : Nat} (x : Sh) (h : k ≠ j) : updS sh j x k = sh k := by simp [updS, h]
structure Bk (w : World) (WB : Nat) (v0 : Value) (tag : Nat → Nat) (sh : Nat → Sh) (nk : Nat) : Prop where
  blk : w.heap[WB]? = some (.cells (bkCells v0 sh nk) 32 (0, 0))
  tW : tag WB = 4
  lt : ∀ k, tag k ≠ 0 → k < w.heap.size
  low : ∀ k, k < WB → tag k = 0
  she : ∀ j, j < 3 → Shelf w tag (j + 1) (tLf j) (tEf j) (szf j) (sh j)
theorem Bk.ltW {w : World} {WB : Nat} {v0 : Value} {tag : Nat → Nat} {sh : Nat → Sh} {nk : Nat} (h : Bk w WB v0 tag sh nk) : WB < w.heap.size := lt_some h.blk
theorem Bk.move {w w' : World} {WB : Nat} {v0 : Value} {tag tag' : Nat → Nat} {sh : Nat → Sh} {nk : Nat} (h : Bk w WB v0 tag sh nk) (hk : ∀ k, tag k ≠ 0 → tag k ≤ 4 → w'.heap[k]? = w.heap[k]? ∧ tag' k = tag k) (hlt : ∀ k, tag' k ≠ 0 → k < w'.heap.size) (hlow : ∀ k, k < WB → tag' k = 0) : Bk w' WB v0 tag' sh nk := by
  have hW := hk WB (by rw [h.tW]; decide) (by rw [h.tW]; decide)
  refine ⟨by rw [hW.1]; exact h.blk, by rw [hW.2, h.tW], hlt, hlow, fun j hj => (h.she j hj).keep fun k hk' ht => ?_⟩
  obtain ⟨e1, e2⟩ := hk k (by omega) (by omega)
  exact ⟨e1, by omega⟩
theorem Bk.below {w w' : World} {WB : Nat} {v0 : Value} {tag : Nat → Nat} {sh : Nat → Sh} {nk : Nat} (h : Bk w WB v0 tag sh nk) (hb : Below w.heap.size w w') : Bk w' WB v0 tag sh nk :=
  h.move (fun k h0 _ => ⟨hb.block k (h.lt k h0), rfl⟩) (fun k h0 => Nat.lt_of_lt_of_le (h.lt k h0) hb.size) h.low
theorem Bk.chg {w w' : World} {WB : Nat} {v0 : Value} {tag : Nat → Nat} {sh : Nat → Sh} {nk : Nat} {F : Nat → Prop} (h : Bk w WB v0 tag sh nk) (hb : Chg F w w') (hF : ∀ k, F k → k < w.heap.size → tag k = 0 ∨ 4 < tag k) : Bk w' WB v0 tag sh nk :=
  h.move (fun k h0 h4 => ⟨hb.far k (h.lt k h0) (fun f => by have := hF k f (h.lt k h0); omega), rfl⟩) (fun k h0 => Nat.lt_of_lt_of_le (h.lt k h0) hb.size) h.low

/-! ### the list that is being put there -/
structure Hand (w : World) (tag : Nat → Nat) (j : Nat) (x : Sh) (vl : Value) (n : Nat) (m : Int) : Prop where
  own : w.ownsRow 0 (tEf j) (szf j) vl n (List.replicate (n * szf j) (.int .i64 m))
  tg : ∀ g, vl.ownBlock = some g → tag g = j + 1 ∧ some g ≠ x.vM.ownBlock
  shr : ∀ g, vl.ownBlock = some g → ∀ e ∈ x.ls.zip x.ms, e.1.ownBlock = some g → 0 < lenV e.1 → e.2 = m ∧ lenV e.1 ≤ n
/-- what the book's own work may change -/
def OfBk (WB j : Nat) (tag : Nat → Nat) : Nat → Prop := fun k => k = WB ∨ tag k = j + 1
def Agree (w : World) (tag tag' : Nat → Nat) : Prop := ∀ k, k < w.heap.size → tag' k = tag k
theorem chg_bk {a b c : World} {WB j : Nat} {tag tag' : Nat → Nat} (h : Chg (OfBk WB j tag) a b) (ha : Agree a tag tag') (k : Chg (OfBk WB j tag') b c) : Chg (OfBk WB j tag) a c :=
  h.trans k fun i hi h => h.imp id fun h => by rw [← ha i hi]; exact h
theorem Agree.trans {a b : World} {t t' t'' : Nat → Nat} (h : Agree a t t') (k : Agree b t' t'') (hs : a.heap.size ≤ b.heap.size) : Agree a t t'' := fun i hi => (k i (by omega)).trans (h i hi)

section
variable {w w3 : World} {WB g2 cap2 nk j n : Nat} {v0 vl : Value} {tag : Nat → Nat} {sh : Nat → Sh} {m : Int} {o : Obj}

theorem cellsL (hj : j < 3) (v : Value) (ls : List Value) : (bkCells v0 sh nk).setIfInBounds (1 + 2 * j) v = bkCells v0 (updS sh j ⟨v, (sh j).vM, ls, (sh j).ms⟩) nk := by
  have : j = 0 ∨ j = 1 ∨ j = 2 := by omega
  rcases this with rfl | rfl | rfl <;> rfl
theorem cellsM (hj : j < 3) (v : Value) (ms : List Int) : (bkCells v0 sh nk).setIfInBounds (2 + 2 * j) v = bkCells v0 (updS sh j ⟨(sh j).vL, v, (sh j).ls, ms⟩) nk := by
  have : j = 0 ∨ j = 1 ∨ j = 2 := by omega
  rcases this with rfl | rfl | rfl <;> rfl

/-- one list more -/
theorem Bk.putL (h : Bk w WB v0 tag sh nk) (hj : j < 3) (hlen : (sh j).ls.length = (sh j).ms.length) (hh : Hand w tag j (sh j) vl n m)
    (hown : w3.ownsRow 0 (tLf j) 1 (.slice (some ⟨g2, 0, none⟩) ((sh j).ls.length + 1) cap2) ((sh j).ls.length + 1) ((sh j).ls ++ [vl]))
    (hat : ((sh j).vL.ownBlock = some g2 ∧ (w.alloc o).grownBy w3 (some g2)) ∨ (g2 = w.heap.size + 1 ∧ (w.alloc o).grownBy w3 none)) :
    ∃ tag', Agree w tag tag' ∧ Bk (w3.setCell ⟨WB, 1 + 2 * j, none⟩ (.slice (some ⟨g2, 0, none⟩) ((sh j).ls.length + 1) cap2)) WB v0 tag' (updS sh j ⟨.slice (some ⟨g2, 0, none⟩) ((sh j).ls.length + 1) cap2, (sh j).vM, (sh j).ls ++ [vl], (sh j).ms⟩) nk ∧
      Hand (w3.setCell ⟨WB, 1 + 2 * j, none⟩ (.slice (some ⟨g2, 0, none⟩) ((sh j).ls.length + 1) cap2)) tag' j ⟨.slice (some ⟨g2, 0, none⟩) ((sh j).ls.length + 1) cap2, (sh j).vM, (sh j).ls ++ [vl], (sh j).ms⟩ vl n m ∧
      Chg (OfBk WB j tag) w (w3.setCell ⟨WB, 1 + 2 * j, none⟩ (.slice (some ⟨g2, 0, none⟩) ((sh j).ls.length + 1) cap2)) := by
  obtain ⟨e1, e2, e3, e4, e5⟩ := grown_at hat
  have S := h.she j hj
  have hWB := h.ltW
  obtain ⟨cur2, hrow2⟩ := ownS_typ hown (g := g2) rfl
  have hWL : some WB ≠ (sh j).vL.ownBlock := fun e => by have := S.inL WB e.symm; have := h.tW; omega
  have hg2W : g2 ≠ WB := fun e => by
    subst e
    rcases hat with ⟨hv, _⟩ | ⟨hv, _⟩
    · exact hWL hv.symm
    · omega
  have hblk : w3.heap[WB]? = some (.cells (bkCells v0 sh nk) 32 (0, 0)) := by rw [e5 WB hWB hWL]; exact h.blk
  generalize hv : Value.slice (some ⟨g2, 0, none⟩) ((sh j).ls.length + 1) cap2 = v' at *
  have hvb : v'.ownBlock = some g2 := by rw [← hv]; rfl
  have unch : ∀ k, k < w.heap.size → k ≠ WB → some k ≠ (sh j).vL.ownBlock → (w3.setCell ⟨WB, 1 + 2 * j, none⟩ v').heap[k]? = w.heap[k]? := fun k hk h1 h2 => by
    rw [Below.heap_setCell _ _ _ _ h1]; exact e5 k hk h2
  obtain ⟨tag', ht1, ht2⟩ : ∃ tag' : Nat → Nat, tag' g2 = j + 1 ∧ ∀ k, k ≠ g2 → tag' k = tag k := ⟨fun k => if k = g2 then j + 1 else tag k, if_pos rfl, fun k hk => if_neg hk⟩
  have hag : Agree w tag tag' := fun k hk => by
    by_cases e : k = g2
    · subst e
      rw [ht1]
      rcases hat with ⟨hv, _⟩ | ⟨hv, _⟩
      · exact (S.inL _ hv).symm
      · omega
    · exact ht2 k e
  have hWt : ∀ k i, tag k = i + 1 → i < 3 → k ≠ WB := fun k i hk hi e => by subst e; have := h.tW; omega
  have hsz : (w3.setCell ⟨WB, 1 + 2 * j, none⟩ v').heap.size = w3.heap.size := by simp
  refine ⟨tag', hag, ⟨?_, ?_, ?_, ?_, ?_⟩, ⟨?_, ?_, ?_⟩, ⟨e1, e2, e3, by rw [hsz]; exact e4, fun k hk hF => ?_⟩⟩
  · rw [heap_setCell_same w3 WB (1 + 2 * j) _ _ _ hblk, cellsL hj]
  · rw [hag WB hWB]; exact h.tW
  · intro k hk
    rw [hsz]
    by_cases e : k = g2
    · subst e; exact lt_some hrow2
    · rw [ht2 k e] at hk
      exact Nat.lt_of_lt_of_le (h.lt k hk) e4
  · intro k hk
    rw [hag k (by omega)]; exact h.low k hk
  · intro i hi
    by_cases e : i = j
    · subst e
      rw [updS_same]
      refine ⟨?_, ?_, ?_, ?_, ?_⟩
      · have := own_keep (w' := w3.setCell ⟨WB, 1 + 2 * i, none⟩ v') hown fun g hg => by
          rw [hvb] at hg
          cases hg
          exact Below.heap_setCell _ _ _ _ hg2W
        simp only [List.length_append, List.length_singleton]
        exact this
      · refine own_keep S.ownM fun g hg => ?_
        obtain ⟨_, cur, hh⟩ := own_typ S.ownM hg
        refine unch g (lt_some hh) (hWt g i (S.inM g hg) hi) fun e => ?_
        obtain ⟨_, cur', hh'⟩ := own_typ S.ownL e.symm
        exact typ_ne hh hh' (tLI i).symm rfl
      · intro g hg
        rw [hvb] at hg
        cases hg
        exact ht1
      · intro g hg
        rw [hag g (ownS_lt S.ownM hg)]
        exact S.inM g hg
      · intro e he
        rw [zip_more _ _ _ hlen] at he
        refine (S.ent e he).keep fun g cur _ _ ht hne hh => ⟨unch g (lt_some hh) (hWt g i ht hi) fun e => ?_, ?_, hne⟩
        · obtain ⟨_, cur', hh'⟩ := own_typ S.ownL e.symm
          exact typ_ne hh hh' (tLE i i).symm rfl
        · rw [hag g (lt_some hh)]; exact ht
    · rw [updS_other _ _ e]
      refine (h.she i hi).keep fun k hk ht => ⟨unch k hk (hWt k i ht hi) fun e' => ?_, ?_⟩
      · have := S.inL k e'.symm; omega
      · rw [hag k hk]; exact ht
  · refine ownS_keep hh.own fun g hg => unch g (ownS_lt hh.own hg) (hWt g j (hh.tg g hg).1 hj) fun e => ?_
    obtain ⟨cur, hc⟩ := ownS_typ hh.own hg
    obtain ⟨_, cur', hh'⟩ := own_typ S.ownL e.symm
    exact typ_ne hc hh' (tLE j j).symm rfl
  · intro g hg
    rw [hag g (ownS_lt hh.own hg)]
    exact hh.tg g hg
  · intro g hg e he
    rw [zip_more _ _ _ hlen] at he
    exact hh.shr g hg e he
  · refine unch k hk (fun e => hF (.inl e)) fun e => hF (.inr (S.inL k e.symm))

/-- one mark more -/
theorem Bk.putM {ls : List Value} (h : Bk w WB v0 tag sh nk) (hj : j < 3) (hls : (sh j).ls = ls ++ [vl]) (hlen : ls.length = (sh j).ms.length) (hh : Hand w tag j (sh j) vl n m)
    (hown : w3.ownsRow 0 3 1 (.slice (some ⟨g2, 0, none⟩) ((sh j).ms.length + 1) cap2) ((sh j).ms.length + 1) ((sh j).ms.map (.int .i64) ++ [.int .i64 m]))
    (hat : ((sh j).vM.ownBlock = some g2 ∧ (w.alloc o).grownBy w3 (some g2)) ∨ (g2 = w.heap.size + 1 ∧ (w.alloc o).grownBy w3 none)) :
    ∃ tag', Agree w tag tag' ∧ Bk (w3.setCell ⟨WB, 2 + 2 * j, none⟩ (.slice (some ⟨g2, 0, none⟩) ((sh j).ms.length + 1) cap2)) WB v0 tag' (updS sh j ⟨(sh j).vL, .slice (some ⟨g2, 0, none⟩) ((sh j).ms.length + 1) cap2, (sh j).ls, (sh j).ms ++ [m]⟩) nk ∧
      Hand (w3.setCell ⟨WB, 2 + 2 * j, none⟩ (.slice (some ⟨g2, 0, none⟩) ((sh j).ms.length + 1) cap2)) tag' j ⟨(sh j).vL, .slice (some ⟨g2, 0, none⟩) ((sh j).ms.length + 1) cap2, (sh j).ls, (sh j).ms ++ [m]⟩ vl n m ∧
      Chg (OfBk WB j tag) w (w3.setCell ⟨WB, 2 + 2 * j, none⟩ (.slice (some ⟨g2, 0, none⟩) ((sh j).ms.length + 1) cap2)) := by
  obtain ⟨e1, e2, e3, e4, e5⟩ := grown_at hat
  have S := h.she j hj
  have hWB := h.ltW
  obtain ⟨cur2, hrow2⟩ := ownS_typ hown (g := g2) rfl
  have hWL : some WB ≠ (sh j).vM.ownBlock := fun e => by have := S.inM WB e.symm; have := h.tW; omega
  have hg2W : g2 ≠ WB := fun e => by
    subst e
    rcases hat with ⟨hv, _⟩ | ⟨hv, _⟩
    · exact hWL hv.symm
    · omega
  have hblk : w3.heap[WB]? = some (.cells (bkCells v0 sh nk) 32 (0, 0)) := by rw [e5 WB hWB hWL]; exact h.blk
  have hnew : ∀ k, k < w.heap.size → some k ≠ (sh j).vM.ownBlock → some k ≠ some g2 := fun k hk hne e => by
    rcases hat with ⟨hv, _⟩ | ⟨hv, _⟩
    · exact hne (by rw [hv]; exact e)
    · cases e; omega
  generalize hv : Value.slice (some ⟨g2, 0, none⟩) ((sh j).ms.length + 1) cap2 = v' at *
  have hvb : v'.ownBlock = some g2 := by rw [← hv]; rfl
  have unch : ∀ k, k < w.heap.size → k ≠ WB → some k ≠ (sh j).vM.ownBlock → (w3.setCell ⟨WB, 2 + 2 * j, none⟩ v').heap[k]? = w.heap[k]? := fun k hk h1 h2 => by
    rw [Below.heap_setCell _ _ _ _ h1]; exact e5 k hk h2
  obtain ⟨tag', ht1, ht2⟩ : ∃ tag' : Nat → Nat, tag' g2 = j + 1 ∧ ∀ k, k ≠ g2 → tag' k = tag k := ⟨fun k => if k = g2 then j + 1 else tag k, if_pos rfl, fun k hk => if_neg hk⟩
  have hag : Agree w tag tag' := fun k hk => by
    by_cases e : k = g2
    · subst e
      rw [ht1]
      rcases hat with ⟨hv, _⟩ | ⟨hv, _⟩
      · exact (S.inM _ hv).symm
      · omega
    · exact ht2 k e
  have hWt : ∀ k i, tag k = i + 1 → i < 3 → k ≠ WB := fun k i hk hi e => by subst e; have := h.tW; omega
  have hsz : (w3.setCell ⟨WB, 2 + 2 * j, none⟩ v').heap.size = w3.heap.size := by simp
  have hent : EntS w tag (j + 1) (tEf j) (szf j) (sh j).vM vl m := by
    rcases hh.own.2 with ⟨rfl, rfl⟩ | ⟨g, cap, cur, rfl, hb, hc, h1, h2, h3, h4⟩
    · exact ⟨none, 0, 0, rfl, Nat.zero_le _, .inl rfl⟩
    · refine ⟨_, n, cap, rfl, by omega, .inr ⟨g, cur, rfl, (hh.tg g rfl).1, (hh.tg g rfl).2, hc, fun k hk => ?_⟩⟩
      have e : (List.replicate (n * szf j) (Value.int .i64 m))[k]? = some (.int .i64 m) := by rw [List.getElem?_replicate, if_pos hk]
      rw [← h4, List.getElem?_take, if_pos hk] at e
      simpa using e
  have key : ∀ v q, EntS w tag (j + 1) (tEf j) (szf j) (sh j).vM v q → EntS (w3.setCell ⟨WB, 2 + 2 * j, none⟩ v') tag' (j + 1) (tEf j) (szf j) v' v q := fun v q hv => hv.keep fun g cur _ _ ht hne hc => by
    refine ⟨unch g (lt_some hc) (hWt g j ht hj) hne, ?_, by rw [hvb]; exact hnew g (lt_some hc) hne⟩
    rw [hag g (lt_some hc)]; exact ht
  have hzip : (sh j).ls.zip ((sh j).ms ++ [m]) = ls.zip (sh j).ms ++ [(vl, m)] := by rw [hls, List.zip_append hlen]; rfl
  have hzip0 : (sh j).ls.zip (sh j).ms = ls.zip (sh j).ms := by rw [hls, zip_more _ _ _ hlen]
  refine ⟨tag', hag, ⟨?_, ?_, ?_, ?_, ?_⟩, ⟨?_, ?_, ?_⟩, ⟨e1, e2, e3, by rw [hsz]; exact e4, fun k hk hF => ?_⟩⟩
  · rw [heap_setCell_same w3 WB (2 + 2 * j) _ _ _ hblk, cellsM hj]
  · rw [hag WB hWB]; exact h.tW
  · intro k hk
    rw [hsz]
    by_cases e : k = g2
    · subst e; exact lt_some hrow2
    · rw [ht2 k e] at hk
      exact Nat.lt_of_lt_of_le (h.lt k hk) e4
  · intro k hk
    rw [hag k (by omega)]; exact h.low k hk
  · intro i hi
    by_cases e : i = j
    · subst e
      rw [updS_same]
      refine ⟨?_, ?_, ?_, ?_, ?_⟩
      · refine own_keep S.ownL fun g hg => ?_
        obtain ⟨_, cur, hc⟩ := own_typ S.ownL hg
        refine unch g (lt_some hc) (hWt g i (S.inL g hg) hi) fun e => ?_
        obtain ⟨_, cur', hh'⟩ := own_typ S.ownM e.symm
        exact typ_ne hc hh' (tLI i) rfl
      · have := own_keep (w' := w3.setCell ⟨WB, 2 + 2 * i, none⟩ v') hown fun g hg => by
          rw [hvb] at hg
          cases hg
          exact Below.heap_setCell _ _ _ _ hg2W
        simp only [List.length_append, List.length_singleton, List.map_append]
        exact this
      · intro g hg
        rw [hag g (ownS_lt S.ownL hg)]
        exact S.inL g hg
      · intro g hg
        rw [hvb] at hg
        cases hg
        exact ht1
      · intro e he
        simp only at he
        rw [hzip] at he
        rcases List.mem_append.1 he with he | he
        · exact key _ _ (S.ent e (by rw [hzip0]; exact he))
        · simp at he
          subst he
          exact key _ _ hent
    · rw [updS_other _ _ e]
      refine (h.she i hi).keep fun k hk ht => ⟨unch k hk (hWt k i ht hi) fun e' => ?_, ?_⟩
      · have := S.inM k e'.symm; omega
      · rw [hag k hk]; exact ht
  · exact ownS_keep hh.own fun g hg => unch g (ownS_lt hh.own hg) (hWt g j (hh.tg g hg).1 hj) (hh.tg g hg).2
  · intro g hg
    rw [hag g (ownS_lt hh.own hg)]
    exact ⟨(hh.tg g hg).1, by rw [hvb]; exact hnew g (ownS_lt hh.own hg) (hh.tg g hg).2⟩
  · intro g hg e he h1 h2
    simp only at he
    rw [hzip] at he
    rcases List.mem_append.1 he with he | he
    · exact hh.shr g hg e (by rw [hzip0]; exact he) h1 h2
    · simp at he
      subst he
      refine ⟨rfl, ?_⟩
      obtain ⟨a, c, rfl⟩ := ownS_any hh.own
      exact Nat.le_refl _
  · refine unch k hk (fun e => hF (.inl e)) fun e => hF (.inr (S.inM k e.symm))

/-- the list itself, longer by one -/
theorem Bk.putE (h : Bk w WB v0 tag sh nk) (hj : j < 3) (hh : Hand w tag j (sh j) vl n m)
    (hown : w3.ownsRow 0 (tEf j) (szf j) (.slice (some ⟨g2, 0, none⟩) (n + 1) cap2) (n + 1) (List.replicate (n * szf j) (.int .i64 m) ++ List.replicate (szf j) (.int .i64 m)))
    (hat : (vl.ownBlock = some g2 ∧ (w.alloc o).grownBy w3 (some g2)) ∨ (g2 = w.heap.size + 1 ∧ (w.alloc o).grownBy w3 none)) :
    ∃ tag', Agree w tag tag' ∧ Bk w3 WB v0 tag' sh nk ∧ Hand w3 tag' j (sh j) (.slice (some ⟨g2, 0, none⟩) (n + 1) cap2) (n + 1) m ∧ Chg (OfBk WB j tag) w w3 := by
  obtain ⟨e1, e2, e3, e4, e5⟩ := grown_at hat
  have S := h.she j hj
  have hWB := h.ltW
  obtain ⟨cur2, hrow2⟩ := ownS_typ hown (g := g2) rfl
  have hg2W : g2 ≠ WB := fun e => by
    subst e
    rcases hat with ⟨hv, _⟩ | ⟨hv, _⟩
    · have := (hh.tg _ hv).1; have := h.tW; omega
    · omega
  obtain ⟨tag', ht1, ht2⟩ : ∃ tag' : Nat → Nat, tag' g2 = j + 1 ∧ ∀ k, k ≠ g2 → tag' k = tag k := ⟨fun k => if k = g2 then j + 1 else tag k, if_pos rfl, fun k hk => if_neg hk⟩
  have hag : Agree w tag tag' := fun k hk => by
    by_cases e : k = g2
    · subst e
      rw [ht1]
      rcases hat with ⟨hv, _⟩ | ⟨hv, _⟩
      · exact (hh.tg _ hv).1.symm
      · omega
    · exact ht2 k e
  have hWt : ∀ k, tag k ≠ j + 1 → some k ≠ vl.ownBlock := fun k hk e => hk (hh.tg k e.symm).1
  have hnew : ∀ k, k < w.heap.size → some k ≠ vl.ownBlock → some k ≠ some g2 := fun k hk hne e => by
    rcases hat with ⟨hv, _⟩ | ⟨hv, _⟩
    · exact hne (by rw [hv]; exact e)
    · cases e; omega
  have hrep : List.replicate (n * szf j) (Value.int .i64 m) ++ List.replicate (szf j) (.int .i64 m) = List.replicate ((n + 1) * szf j) (.int .i64 m) := by
    rw [List.replicate_append_replicate, Nat.add_mul, Nat.one_mul]
  refine ⟨tag', hag, ⟨?_, ?_, ?_, ?_, ?_⟩, ⟨?_, ?_, ?_⟩, ⟨e1, e2, e3, e4, fun k hk hF => ?_⟩⟩
  · rw [e5 WB hWB (hWt WB (by rw [h.tW]; omega))]; exact h.blk
  · rw [hag WB hWB]; exact h.tW
  · intro k hk
    by_cases e : k = g2
    · subst e; exact lt_some hrow2
    · rw [ht2 k e] at hk
      exact Nat.lt_of_lt_of_le (h.lt k hk) e4
  · intro k hk
    rw [hag k (by omega)]; exact h.low k hk
  · intro i hi
    by_cases e : i = j
    · subst e
      refine ⟨?_, ?_, ?_, ?_, ?_⟩
      · refine own_keep S.ownL fun g hg => ?_
        obtain ⟨_, cur, hc⟩ := own_typ S.ownL hg
        refine e5 g (lt_some hc) fun e => ?_
        obtain ⟨cur', hh'⟩ := ownS_typ hh.own e.symm
        exact typ_ne hc hh' (tLE i i) rfl
      · exact own_keep S.ownM fun g hg => e5 g (ownS_lt S.ownM hg) fun e => (hh.tg g e.symm).2 hg.symm
      · intro g hg
        rw [hag g (ownS_lt S.ownL hg)]
        exact S.inL g hg
      · intro g hg
        rw [hag g (ownS_lt S.ownM hg)]
        exact S.inM g hg
      · intro e he
        obtain ⟨a, ne, c, hv, hmx, hE⟩ := S.ent e he
        refine ⟨a, ne, c, hv, hmx, ?_⟩
        rcases hE with h0 | ⟨g, cur, rfl, ht, hne, hc, hcs⟩
        · exact .inl h0
        by_cases h0 : ne = 0
        · exact .inl h0
        right
        have hl : lenV e.1 = ne := by rw [hv]; rfl
        have hob : e.1.ownBlock = some g := by rw [hv]; rfl
        have htg : tag' g = i + 1 := by rw [hag g (lt_some hc)]; exact ht
        by_cases hg : some g = vl.ownBlock
        · obtain ⟨hm, hle⟩ := hh.shr g hg.symm e he hob (by omega)
          rcases hat with ⟨hg2, _⟩ | ⟨_, hnone⟩
          · rw [← hg] at hg2
            have hg2' : g = g2 := by simpa using hg2
            subst hg2'
            rw [hrep] at hown
            rcases hown.2 with ⟨hn, _⟩ | ⟨g', cap', cur', hv', hb', hh', h1', h2', h3', h4'⟩
            · cases hn
            · cases hv'
              refine ⟨g, cur', rfl, htg, hne, hh', fun k hk => ?_⟩
              have hk2 : k < (n + 1) * szf i := Nat.lt_of_lt_of_le hk (Nat.mul_le_mul_right _ (by omega))
              have e : (List.replicate ((n + 1) * szf i) (Value.int .i64 m))[k]? = some (.int .i64 m) := by
                rw [List.getElem?_replicate, if_pos hk2]
              rw [← h4', List.getElem?_take, if_pos hk2] at e
              rw [hm]; simpa using e
          · refine ⟨g, cur, rfl, htg, hne, ?_, hcs⟩
            rw [hnone.block g (by have := lt_some hc; simp; omega) (by simp), Below.heap_alloc w o g (lt_some hc)]
            exact hc
        · exact ⟨g, cur, rfl, htg, hne, by rw [e5 g (lt_some hc) hg]; exact hc, hcs⟩
    · refine (h.she i hi).keep fun k hk ht => ⟨e5 k hk (hWt k (by omega)), ?_⟩
      rw [hag k hk]; exact ht
  · rw [hrep] at hown; exact hown
  · intro g hg
    cases hg
    refine ⟨ht1, fun e => ?_⟩
    rcases hat with ⟨hg2, _⟩ | ⟨hg2, _⟩
    · exact (hh.tg _ hg2).2 e
    · have : g2 < w.heap.size := ownS_lt S.ownM e.symm
      omega
  · intro g hg e he h1 h2
    cases hg
    rcases hat with ⟨hg2, _⟩ | ⟨hg2, _⟩
    · obtain ⟨a, b⟩ := hh.shr _ hg2 e he h1 h2
      exact ⟨a, by omega⟩
    · obtain ⟨a, ne, c, hv, _, hE⟩ := S.ent e he
      rw [hv] at h1 h2
      rcases hE with rfl | ⟨g, cur, rfl, ht, hne, hc, hcs⟩
      · simp [lenV] at h2
      · cases h1
        have : g2 < w.heap.size := lt_some hc
        omega
  · exact e5 k hk fun e => hF (.inr (hh.tg k e.symm).1)

/-- it is taken over -/
theorem Bk.take {xs : List Value} (h : Bk w WB v0 tag sh nk) (hj : j < 3) (hv : w.ownsRow 0 (tEf j) (szf j) vl n (List.replicate (n * szf j) (.int .i64 m))) (hf : ∀ g, vl.ownBlock = some g → tag g = 0 ∧ WB < g) :
    ∃ tag', (∀ k, some k ≠ vl.ownBlock → tag' k = tag k) ∧ Bk w WB v0 tag' sh nk ∧ Hand w tag' j (sh j) vl n m := by
  refine ⟨fun k => if some k = vl.ownBlock then j + 1 else tag k, fun k hk => if_neg hk, h.move (fun k h0 _ => ⟨rfl, if_neg fun e => h0 (hf k e.symm).1⟩) (fun k hk => ?_) (fun k hk => ?_), ⟨hv, fun g hg => ⟨if_pos hg.symm, fun e => ?_⟩, fun g hg e he h1 h2 => ?_⟩⟩
  · by_cases e : some k = vl.ownBlock
    · exact ownS_lt hv e.symm
    · rw [if_neg e] at hk; exact h.lt k hk
  · rw [if_neg fun e => by have := (hf k e.symm).2; omega]
    exact h.low k hk
  · have := (h.she j hj).inM g e.symm
    have := (hf g hg).1
    omega
  · obtain ⟨a, ne, c, hv', _, hE⟩ := (h.she j hj).ent e he
    rw [hv'] at h1 h2
    rcases hE with rfl | ⟨g', cur, rfl, ht, hne, hc, hcs⟩
    · simp [lenV] at h2
    · cases h1
      have : tag g' = 0 := (hf g' hg).1
      omega
/-- one number more -/
theorem Bk.bump (h : Bk w WB v0 tag sh nk) : Bk (w.setCell ⟨WB, 7, none⟩ (.int .i64 ((nk : Int) + 1))) WB v0 tag sh (nk + 1) ∧ Chg (fun k => k = WB) w (w.setCell ⟨WB, 7, none⟩ (.int .i64 ((nk : Int) + 1))) := by
  have far : ∀ k, k ≠ WB → (w.setCell ⟨WB, 7, none⟩ (.int .i64 ((nk : Int) + 1))).heap[k]? = w.heap[k]? := fun k hk => Below.heap_setCell _ _ _ _ hk
  refine ⟨⟨?_, h.tW, fun k hk => by simpa using h.lt k hk, h.low, fun j hj => (h.she j hj).keep fun k hk ht => ⟨far k fun e => ?_, ht⟩⟩, ⟨rfl, rfl, rfl, by simp, fun k _ hk => far k hk⟩⟩
  · rw [heap_setCell_same w WB 7 _ _ _ h.blk]; rfl
  · subst e; have := h.tW; omega
theorem Bk.cells (h : Bk w WB v0 tag sh nk) : w.cell? ⟨WB, 0, none⟩ = some v0 ∧ w.cell? ⟨WB, 1, none⟩ = some (sh 0).vL ∧ w.cell? ⟨WB, 2, none⟩ = some (sh 0).vM ∧ w.cell? ⟨WB, 3, none⟩ = some (sh 1).vL ∧ w.cell? ⟨WB, 4, none⟩ = some (sh 1).vM ∧ w.cell? ⟨WB, 5, none⟩ = some (sh 2).vL ∧ w.cell? ⟨WB, 6, none⟩ = some (sh 2).vM ∧ w.cell? ⟨WB, 7, none⟩ = some (.int .i64 (nk : Int)) := by
  have hb := h.blk
  simp [World.cell?, hb, bkCells]
theorem Bk.frozen (h : Bk w WB v0 tag sh nk) (j : Nat) : w.frozen? ⟨WB, j, none⟩ = false := by
  have hb := h.blk
  simp [World.frozen?, hb]
/-- behind an append -/
theorem Bk.behind {v : Value} (h : Bk w WB v0 tag sh nk) (hv : ∀ g, v.ownBlock = some g → tag g ≠ 4) (hat : (v.ownBlock = some g2 ∧ (w.alloc o).grownBy w3 (some g2)) ∨ (g2 = w.heap.size + 1 ∧ (w.alloc o).grownBy w3 none)) :
    ∀ j, w3.cell? ⟨WB, j, none⟩ = w.cell? ⟨WB, j, none⟩ ∧ w3.frozen? ⟨WB, j, none⟩ = false := by
  have hb := (grown_at hat).2.2.2.2 WB h.ltW fun e => hv WB e.symm h.tW
  intro j
  refine ⟨World.cell?_of_block (a := ⟨WB, j, none⟩) hb, ?_⟩
  rw [World.frozen?_of_block (a := ⟨WB, j, none⟩) hb]
  exact h.frozen j
end

/-! ### a round of the book's work: a list, its mark, the list made longer -/
structure Rnd (W1 : World) (tag1 : Nat → Nat) (WB j : Nat) (v0 : Value) (sh1 : Nat → Sh) (nk : Nat) (m : Int) (q n : Nat) (vl : Value) (wr : World) (tag : Nat → Nat) (sh : Nat → Sh) : Prop where
  bk : Bk wr WB v0 tag sh nk
  hand : Hand wr tag j (sh j) vl n m
  oth : ∀ k, k ≠ j → sh k = sh1 k
  msl : (sh j).ms.length = (sh1 j).ms.length + q
  ag : Agree W1 tag1 tag
  chg : Chg (OfBk WB j tag1) W1 wr
section
variable {W1 wr w3 : World} {tag1 tag : Nat → Nat} {WB j nk q n g2 cap2 : Nat} {v0 vl : Value} {sh1 sh : Nat → Sh} {m : Int} {o : Obj}
theorem Rnd.start (h : Bk wr WB v0 tag sh nk) (hh : Hand wr tag j (sh j) vl n m) : Rnd wr tag WB j v0 sh nk m 0 n vl wr tag sh := ⟨h, hh, fun _ _ => rfl, rfl, fun _ _ => rfl, Chg.refl _ _⟩
theorem Rnd.L (R : Rnd W1 tag1 WB j v0 sh1 nk m q n vl wr tag sh) (hj : j < 3) (hlen : (sh j).ls.length = (sh j).ms.length)
    (hown : w3.ownsRow 0 (tLf j) 1 (.slice (some ⟨g2, 0, none⟩) ((sh j).ls.length + 1) cap2) ((sh j).ls.length + 1) ((sh j).ls ++ [vl]))
    (hat : ((sh j).vL.ownBlock = some g2 ∧ (wr.alloc o).grownBy w3 (some g2)) ∨ (g2 = wr.heap.size + 1 ∧ (wr.alloc o).grownBy w3 none)) :
    ∃ tag' sh', Rnd W1 tag1 WB j v0 sh1 nk m q n vl (w3.setCell ⟨WB, 1 + 2 * j, none⟩ (.slice (some ⟨g2, 0, none⟩) ((sh j).ls.length + 1) cap2)) tag' sh' ∧ (sh' j).ls = (sh j).ls ++ [vl] ∧ (sh' j).ms = (sh j).ms ∧ (sh' j).vM = (sh j).vM := by
  obtain ⟨tag', ha, hB, hH, hC⟩ := R.bk.putL hj hlen R.hand hown hat
  refine ⟨tag', _, ⟨hB, by rw [updS_same]; exact hH, fun k hk => by rw [updS_other _ _ hk]; exact R.oth k hk, by rw [updS_same]; exact R.msl, R.ag.trans ha R.chg.size, chg_bk R.chg R.ag hC⟩, ?_, ?_, ?_⟩ <;> rw [updS_same]
theorem Rnd.M {ls : List Value} (R : Rnd W1 tag1 WB j v0 sh1 nk m q n vl wr tag sh) (hj : j < 3) (hls : (sh j).ls = ls ++ [vl]) (hlen : ls.length = (sh j).ms.length)
    (hown : w3.ownsRow 0 3 1 (.slice (some ⟨g2, 0, none⟩) ((sh j).ms.length + 1) cap2) ((sh j).ms.length + 1) ((sh j).ms.map (.int .i64) ++ [.int .i64 m]))
    (hat : ((sh j).vM.ownBlock = some g2 ∧ (wr.alloc o).grownBy w3 (some g2)) ∨ (g2 = wr.heap.size + 1 ∧ (wr.alloc o).grownBy w3 none)) :
    ∃ tag' sh', Rnd W1 tag1 WB j v0 sh1 nk m (q + 1) n vl (w3.setCell ⟨WB, 2 + 2 * j, none⟩ (.slice (some ⟨g2, 0, none⟩) ((sh j).ms.length + 1) cap2)) tag' sh' ∧ (sh' j).ls.length = (sh' j).ms.length := by
  obtain ⟨tag', ha, hB, hH, hC⟩ := R.bk.putM hj hls hlen R.hand hown hat
  refine ⟨tag', _, ⟨hB, by rw [updS_same]; exact hH, fun k hk => by rw [updS_other _ _ hk]; exact R.oth k hk, ?_, R.ag.trans ha R.chg.size, chg_bk R.chg R.ag hC⟩, ?_⟩ <;> rw [updS_same]
  · simp only [List.length_append, List.length_singleton]
    have := R.msl
    omega
  · simp only [hls, List.length_append, List.length_singleton]
    omega
theorem Rnd.E (R : Rnd W1 tag1 WB j v0 sh1 nk m q n vl wr tag sh) (hj : j < 3)
    (hown : w3.ownsRow 0 (tEf j) (szf j) (.slice (some ⟨g2, 0, none⟩) (n + 1) cap2) (n + 1) (List.replicate (n * szf j) (.int .i64 m) ++ List.replicate (szf j) (.int .i64 m)))
    (hat : (vl.ownBlock = some g2 ∧ (wr.alloc o).grownBy w3 (some g2)) ∨ (g2 = wr.heap.size + 1 ∧ (wr.alloc o).grownBy w3 none)) :
    ∃ tag', Rnd W1 tag1 WB j v0 sh1 nk m q (n + 1) (.slice (some ⟨g2, 0, none⟩) (n + 1) cap2) w3 tag' sh := by
  obtain ⟨tag', ha, hB, hH, hC⟩ := R.bk.putE hj R.hand hown hat
  exact ⟨tag', ⟨hB, hH, R.oth, R.msl, R.ag.trans ha R.chg.size, chg_bk R.chg R.ag hC⟩⟩
end

/-- what the book's calls leave -/
def Wrote (j WB : Nat) (v0 : Value) (tag : Nat → Nat) (sh : Nat → Sh) (nk : Nat) (v : Value) (w w' : World) : Prop :=
  ∃ tag' sh', Bk w' WB v0 tag' sh' (nk + 1) ∧ (∀ k, k ≠ j → sh' k = sh k) ∧ (sh' j).ls.length = (sh' j).ms.length ∧ (sh' j).ls.length = (sh j).ls.length + 4 ∧
    (∀ k, k < w.heap.size → some k ≠ v.ownBlock → tag' k = tag k) ∧ Chg (fun k => k = WB ∨ tag k = j + 1 ∨ some k = v.ownBlock) w w'

theorem Rnd.wrote {w W1 wr : World} {tag0 tag1 tag : Nat → Nat} {WB j nk n : Nat} {v0 v vl : Value} {sh1 sh : Nat → Sh} {m : Int} (R : Rnd W1 tag1 WB j v0 sh1 (nk + 1) m 4 n vl wr tag sh) (hlen : (sh j).ls.length = (sh j).ms.length) (hlen1 : (sh1 j).ls.length = (sh1 j).ms.length)
    (hc : Chg (fun k => k = WB ∨ some k = v.ownBlock) w W1) (ht : ∀ k, some k ≠ v.ownBlock → tag1 k = tag0 k) : Wrote j WB v0 tag0 sh1 nk v w wr := by
  refine ⟨tag, sh, R.bk, R.oth, hlen, by have := R.msl; omega, fun k hk hne => by rw [R.ag k (Nat.lt_of_lt_of_le hk hc.size), ht k hne], ?_⟩
  refine (hc.mono fun k _ h => h.imp id .inr).trans R.chg fun k _ h => ?_
  by_cases e : some k = v.ownBlock
  · exact .inr (.inr e)
  · rcases h with h | h
    · exact .inl h
    · rw [ht k e] at h; exact .inr (.inl h)

end Go.Proofs.YtgpapegpdfonpaaGreatDoor
