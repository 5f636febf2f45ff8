/-
  The statement's own lists: lend, returned, sameInts, num.
-/
import Derived.Test.YtgpapegpdfonpaaGreatDoorRefAC
import Derived.Laws.CopyOwn
import Derived.Laws.OwnMore
namespace Go.Proofs.YtgpapegpdfonpaaGreatDoor
set_option linter.unusedVariables false
set_option linter.unusedSimpArgs false
open Go.RowKit
attribute [local go_sem ↓] Go.wp_at_zero Go.wp_at_succ

/-! ### copy, of elements of two cells -/
theorem run_copy_two {P : Program} (w : World) (dT sT ty elem : TypeId) (g dLen dCap : Nat) (a : Addr) (sLen sCap : Nat) (cur : Array Value) (t : TypeId) (cs : List Value)
    (hu : P.underlying dT = some (.slice elem)) (hs : (P.info? elem).map (·.size) = some 2)
    (hg : w.heap[g]? = some (.cells cur t (0, 0))) (hn : cs.length = Nat.min sLen dLen * 2)
    (hsrc : ∀ j v, cs[j]? = some v → w.cell? (a.add j) = some v) (hfit : cs.length ≤ cur.size) (h1 : ∀ v ∈ cs, v.oneCell' = true) :
    (Builtin.copy_ #[dT, sT] ty #[.slice (some ⟨g, 0, none⟩) dLen dCap, .slice (some a) sLen sCap]).run P w =
      .ok (goInt (Nat.min sLen dLen)) (w.setRow g (cs ++ cur.toList.drop cs.length).toArray) := by
  have hl := run_loadCells_list (P := P) w a cs hsrc
  have hst := run_storeCells_at P g 0 t cs 0 cur w hg (by simpa using hfit) h1
  cases hq : P.info? elem with
  | none => simp [hq] at hs
  | some i =>
    have hi : i.size = 2 := by simpa [hq] using hs
    rw [hn] at hl
    simp [Builtin.copy_, run_underlying hu, Builtin.lenOf, Builtin.firstCells, sizeOf, typeInfo, hq, hi, hl, hst]

theorem wpList_copy_two {P : Program} {w : World} {ops : Array Oper} {rest : List Oper} {o : Oper} {a : Act} {Q : Exit → Act → World → Prop} (hgd : o.guard = none) (d s : Operand) (dT sT : TypeId)
    (ho : o.op = .call { callee := .builtin .copy, args := #[d, s], argTypes := #[dT, sT] }) (elem : TypeId) (hu : P.underlying dT = some (.slice elem)) (hsz : (P.info? elem).map (·.size) = some 2)
    (g dLen dCap : Nat) (ad : Addr) (sLen sCap : Nat) (hd : a.eval d = .slice (some ⟨g, 0, none⟩) dLen dCap) (hs : a.eval s = .slice (some ad) sLen sCap)
    (cur : Array Value) (t : TypeId) (hg : w.heap[g]? = some (.cells cur t (0, 0))) (cs : List Value) (hn : cs.length = Nat.min sLen dLen * 2)
    (hsrc : ∀ j v, cs[j]? = some v → w.cell? (ad.add j) = some v) (hfit : cs.length ≤ cur.size) (h1 : ∀ v ∈ cs, v.oneCell' = true)
    (h : wpList P ops Q rest (a.put o.dst (goInt (Nat.min sLen dLen))) (w.setRow g (cs ++ cur.toList.drop cs.length).toArray)) : wpList P ops Q (o :: rest) a w := by
  refine wpList_plain hgd fun K hK => ?_
  have hrun := run_copy_two (P := P) w dT sT o.type elem g dLen dCap ad sLen sCap cur t cs hu hsz hg hn hsrc hfit h1
  unfold Oper.wp
  simp [execOp, ho, resolve, invoke, builtin, hd, hs, hrun, Result.andThen]
  exact hK _ _ h
theorem wpList_copy_zero {P : Program} {w : World} {ops : Array Oper} {rest : List Oper} {o : Oper} {a : Act} {Q : Exit → Act → World → Prop} (hgd : o.guard = none) (d s : Operand) (dT sT : TypeId)
    (ho : o.op = .call { callee := .builtin .copy, args := #[d, s], argTypes := #[dT, sT] }) (elem : TypeId) (hu : P.underlying dT = some (.slice elem)) (hsz : (P.info? elem).map (·.size) = some 2)
    (dp sp : Option Addr) (dLen dCap sCap : Nat) (hd : a.eval d = .slice dp dLen dCap) (hs : a.eval s = .slice sp 0 sCap)
    (h : wpList P ops Q rest (a.put o.dst (goInt 0)) w) : wpList P ops Q (o :: rest) a w := by
  refine wpList_plain hgd fun K hK => ?_
  have hrun : (Builtin.copy_ #[dT, sT] o.type #[.slice dp dLen dCap, .slice sp 0 sCap]).run P w = .ok (goInt 0) w := by
    cases hq : P.info? elem with
    | none => simp [hq] at hsz
    | some i =>
      have hl : ∀ (x : Addr), (loadCells x 0).run P w = .ok #[] w := fun x => by simpa using run_loadCells_list (P := P) w x [] (by simp)
      cases dp <;> cases sp <;> simp [Builtin.copy_, run_underlying hu, Builtin.lenOf, Builtin.firstCells, sizeOf, typeInfo, hq, storeCells, hl]
  unfold Oper.wp
  simp [execOp, ho, resolve, invoke, builtin, hd, hs, hrun, Result.andThen]
  exact hK _ _ h

theorem sizePt : (Tryz.prog.info? 37).map (·.size) = some 2 := by kernel_rfl

theorem pts_newsA {w : World} {g off : Nat} {l : List Pt} (h : PtsAt w g off l) : ∀ j u, (cellsP l)[j]? = some u → w.cell? ((⟨g, off, none⟩ : Addr).add j) = some u := by
  intro j u hj
  have hadd : (⟨g, off, none⟩ : Addr).add j = ⟨g, off + j, none⟩ := by unfold Addr.add; split <;> simp_all
  rw [hadd]
  have hlt : j < l.length * 2 := by
    rw [← cellsP_len]
    exact (List.getElem?_eq_some_iff.1 hj).1
  obtain ⟨i, hi⟩ : ∃ i, j = i * 2 ∨ j = i * 2 + 1 := ⟨j / 2, by omega⟩
  rcases hi with rfl | rfl
  · have hi : i < l.length := by omega
    rw [(cellsP_get l i hi).1] at hj
    rw [(h i hi).1]; exact hj
  · have hi : i < l.length := by omega
    rw [(cellsP_get l i hi).2] at hj
    have := (h i hi).2
    rw [Nat.add_assoc] at this
    rw [this]; exact hj

/-! ### a row of points, a block of its own -/
def RowP (w : World) (g : Nat) (l : List Pt) : Prop := w.heap[g]? = some (.cells (cellsP l).toArray 37 (0, 0))
theorem RowP.lt {w : World} {g : Nat} {l : List Pt} (h : RowP w g l) : g < w.heap.size := (Array.getElem?_eq_some_iff.1 h).1
theorem RowP.pts {w : World} {g : Nat} {l : List Pt} (h : RowP w g l) : PtsAt w g 0 l := by
  intro j hj
  obtain ⟨a, b⟩ := cellsP_get l j hj
  unfold RowP at h
  rw [Nat.zero_add]
  refine ⟨?_, ?_⟩
  · simp only [World.cell?, h]; simpa using a
  · simp only [World.cell?, h]; simpa using b
theorem RowP.frozen {w : World} {g : Nat} {l : List Pt} (h : RowP w g l) (i : Nat) : w.frozen? ⟨g, i, none⟩ = false := by
  unfold RowP at h
  simp [World.frozen?, h]
theorem RowP.keep {w w' : World} {g : Nat} {l : List Pt} (h : RowP w g l) (e : w'.heap[g]? = w.heap[g]?) : RowP w' g l := by
  unfold RowP at *
  rw [e]; exact h

theorem cellsP_set (l : List Pt) (x y : Int) : ∀ i, i < l.length → ((cellsP l).set (i * 2) (.int .i64 x)).set (i * 2 + 1) (.int .i64 y) = cellsP (l.set i (x, y)) := by
  induction l with
  | nil => intro i h; simp at h
  | cons p l ih =>
    intro i h
    have e : cellsP (p :: l) = .int .i64 p.1 :: .int .i64 p.2 :: cellsP l := by simp [cellsP]
    rw [e]
    match i with
    | 0 => simp [cellsP]
    | i + 1 =>
      have := ih i (by simpa using h)
      rw [show (i + 1) * 2 = i * 2 + 1 + 1 by omega]
      simp only [List.set_cons_succ]
      rw [this]
      simp [cellsP]
theorem RowP.put {w : World} {g : Nat} {l : List Pt} (h : RowP w g l) {i : Nat} (hi : i < l.length) (x y : Int) : RowP ((w.setCell ⟨g, i * 2, none⟩ (.int .i64 x)).setCell ⟨g, i * 2 + 1, none⟩ (.int .i64 y)) g (l.set i (x, y)) := by
  unfold RowP at *
  rw [← cellsP_set l x y i hi]
  simp [World.setCell, Array.getElem?_modify, h]
theorem put_other (w : World) {g k : Nat} (hk : k ≠ g) (i j : Nat) (x y : Value) : ((w.setCell ⟨g, i, none⟩ x).setCell ⟨g, j, none⟩ y).heap[k]? = w.heap[k]? := by
  rw [Below.heap_setCell _ _ _ _ hk, Below.heap_setCell _ _ _ _ hk]
theorem grown_put {w w1 : World} {g : Nat} (h : w.grownBy w1 (some g)) (i j : Nat) (x y : Value) : w.grownBy ((w1.setCell ⟨g, i, none⟩ x).setCell ⟨g, j, none⟩ y) (some g) :=
  ⟨h.os, h.tape, h.output, by have := h.size; simpa [World.setCell] using this, fun k hk hne => by
    rw [put_other _ (fun e => hne (by rw [e]))]; exact h.block k hk hne⟩
theorem grown_below {w w1 w2 : World} {g : Option Nat} (h : w.grownBy w1 g) (hb : Below w1.heap.size w1 w2) : w.grownBy w2 g :=
  ⟨hb.os.trans h.os, hb.tape.trans h.tape, hb.output.trans h.output, Nat.le_trans h.size hb.size, fun k hk hne => by
    rw [hb.block k (Nat.lt_of_lt_of_le hk h.size)]; exact h.block k hk hne⟩
theorem grown_refl (w : World) (g : Option Nat) : w.grownBy w g := ⟨rfl, rfl, rfl, Nat.le_refl _, fun _ _ _ => rfl⟩
theorem grown_drewN {w w1 : World} {g : Option Nat} {m : Nat} (h : w.grownBy w1 g) : w.grownBy (w1.drewN m) g := ⟨h.os, h.tape, h.output, h.size, h.block⟩

/-- what lies behind a list that is handed in, up to k -/
def marksTo (k : Nat) : List Pt := (List.range 8).map fun i => if i < k then (77, (i : Int)) else (0, 0)
theorem marks_len (k : Nat) : (marksTo k).length = 8 := by simp [marksTo]
theorem marks_zero : marksTo 0 = List.replicate 8 (0, 0) := by simp [marksTo]; rfl
theorem marks_set (l : List Pt) (k : Nat) (h : k < 8) : (l ++ marksTo k).set (l.length + k) (77, (k : Int)) = l ++ marksTo (k + 1) := by
  rw [List.set_append_right _ _ (by omega)]
  congr 1
  rw [show l.length + k - l.length = k by omega]
  apply List.ext_getElem?
  intro i
  by_cases hi : i < 8
  · by_cases e : k = i
    · subst e; simp [marksTo, hi]
    · rw [List.getElem?_set_ne e]
      simp [marksTo, hi]
      have : (i < k) = (i < k + 1) := by simp; omega
      simp [this]
  · rw [List.getElem?_eq_none (by simp [marksTo]; omega), List.getElem?_eq_none (by simp [marksTo]; omega)]
theorem marks_get (k : Nat) (h : k < 8) : (marksTo 8).getD k (0, 0) = (77, (k : Int)) := by simp [marksTo, h]

theorem made_cells (n : Nat) : (madeCells #[Value.int .i64 0, .int .i64 0] (n * 2)).toList = cellsP (List.replicate n (0, 0)) := by
  apply List.ext_getElem?
  intro i
  by_cases h1 : i < n * 2
  · have e : cellsP (List.replicate n (0, 0)) = List.replicate (n * 2) (.int .i64 0) := by
      clear h1
      induction n with
      | zero => rfl
      | succ n ih =>
        rw [List.replicate_succ, show (n + 1) * 2 = n * 2 + 1 + 1 by omega, List.replicate_succ, List.replicate_succ, ← ih]
        simp [cellsP]
    rw [e]
    have h2 : i % 2 = 0 ∨ i % 2 = 1 := by omega
    rcases h2 with h2 | h2 <;> simp [madeCells, h1, h2]
  · rw [List.getElem?_eq_none (by simp [madeCells]; omega), List.getElem?_eq_none (by rw [cellsP_len]; simp; omega)]
theorem run_make_pt (kl kc : IntKind) (n : Nat) (hn : n ≤ 8796093030000) (w : World) : (Instr.makeSlice 41 (.int kl (n : Int)) (.int kc (n : Int))).run Tryz.prog w =
    .ok (.slice (some ⟨w.heap.size, 0, none⟩) n n) (w.alloc (.cells (cellsP (List.replicate n (0, 0))).toArray 37)) := by
  obtain ⟨i0, hi0, hz0, hz1, hz2⟩ := info_parts infoPt
  have hr := run_make (P := Tryz.prog) w 41 37 i0 (.agg #[.int .i64 0, .int .i64 0]) Tryz.underlying41 hi0 hz0 kl kc n n (by omega) (Int.le_refl _) (by rw [hz2]; omega) (by omega)
  simp only [Int.toNat_natCast, hz1] at hr
  rw [hr]
  have e : madeCells (Value.agg #[.int .i64 0, .int .i64 0]).cells (n * 2) = (cellsP (List.replicate n (0, 0))).toArray := by
    rw [← made_cells]; rfl
  rw [e]
theorem wpList_make_pt (w : World) {ops : Array Oper} {rest : List Oper} {o : Oper} {a : Act} {Q : Exit → Act → World → Prop}
    (hg : o.guard = none) (l c : Operand) (hop : o.op = Op.makeSlice 41 l c) (kl kc : IntKind) (n : Nat) (z : Int) (hl : a.eval l = .int kl z) (hc : a.eval c = .int kc z) (hz : z = (n : Int)) (hn : n ≤ 8796093030000)
    (hK : wpList Tryz.prog ops Q rest (a.put o.dst (.slice (some ⟨w.heap.size, 0, none⟩) n n)) (w.alloc (.cells (cellsP (List.replicate n (0, 0))).toArray 37))) :
    wpList Tryz.prog ops Q (o :: rest) a w := by
  refine wpList_plain hg fun K hK' => ?_
  subst hz
  have hrun := run_make_pt kl kc n hn w
  unfold Oper.wp
  simp [execOp, hop, hl, hc, hrun, Result.andThen]
  exact hK' _ _ hK

theorem grown_setRow (w : World) (g : Nat) (cs : Array Value) : w.grownBy (w.setRow g cs) (some g) :=
  ⟨rfl, rfl, rfl, by simp [World.setRow], fun k hk hne => by
    have : ¬ g = k := fun e => hne (by rw [e])
    simp [World.setRow, Array.getElem?_modify, this]⟩

/-- the copy within lend -/
theorem wpList_copy_pts {w : World} {ops : Array Oper} {rest : List Oper} {o : Oper} {a : Act} {Q : Exit → Act → World → Prop} (hgd : o.guard = none) (d s : Operand)
    (ho : o.op = .call { callee := .builtin .copy, args := #[d, s], argTypes := #[41, 41] }) (g dCap : Nat) (sa : Option Addr) (l : List Pt) (sCap : Nat)
    (hd : a.eval d = .slice (some ⟨g, 0, none⟩) (l.length + 8) dCap) (hs : a.eval s = .slice sa l.length sCap) (hr : RawAt w sa l)
    (hg : w.heap[g]? = some (.cells (cellsP (List.replicate (l.length + 8) (0, 0))).toArray 37 (0, 0)))
    (h : ∀ w', RowP w' g (l ++ marksTo 0) → w.grownBy w' (some g) → wpList Tryz.prog ops Q rest (a.put o.dst (goInt l.length)) w') : wpList Tryz.prog ops Q (o :: rest) a w := by
  rcases hr with rfl | ⟨b, off, rfl, hb, hp⟩
  · refine wpList_copy_zero hgd d s _ _ ho 37 Tryz.underlying41 sizePt _ _ _ _ _ hd hs (h w ?_ (grown_refl _ _))
    rw [marks_zero]
    unfold RowP
    rw [hg]; rfl
  · have hm : Nat.min l.length (l.length + 8) = l.length := Nat.min_eq_left (by omega)
    have key := wpList_copy_two (P := Tryz.prog) (w := w) (rest := rest) (ops := ops) (a := a) (Q := Q) hgd d s _ _ ho 37 Tryz.underlying41 sizePt g _ _ ⟨b, off, none⟩ _ _ hd hs _ _ hg (cellsP l) (by rw [hm, cellsP_len])
      (pts_newsA hp) (by simp [cellsP_len]; omega) (cellsP_one l)
    rw [hm] at key
    refine key (h _ ?_ (grown_setRow _ _ _))
    unfold RowP
    have e : (cellsP l ++ (cellsP (List.replicate (l.length + 8) (0, 0))).toArray.toList.drop (cellsP l).length).toArray = (cellsP (l ++ marksTo 0)).toArray := by
      rw [marks_zero, cellsP_append, cellsP_len]
      simp only
      have : List.replicate (l.length + 8) ((0, 0) : Pt) = List.replicate l.length (0, 0) ++ List.replicate 8 (0, 0) := by rw [List.replicate_append_replicate]
      rw [this, cellsP_append, List.drop_left' (by rw [cellsP_len, List.length_replicate])]
    rw [e]
    simp [World.setRow, Array.getElem?_modify, hg]

theorem RawAt.below {w w' : World} {a : Option Addr} {l : List Pt} (h : RawAt w a l) (hb : Below w.heap.size w w') : RawAt w' a l := by
  rcases h with h | ⟨b, off, ha, hlt, hp⟩
  · exact .inl h
  · exact .inr ⟨b, off, ha, Nat.lt_of_lt_of_le hlt hb.size, hp.below hb hlt⟩

set_option maxHeartbeats 800000 in
theorem lend_any (a : Option Addr) (cap : Nat) (l : List Pt) (w : World) (hr : RawAt w a l) (hl : l.length ≤ 8796093021952) :
    Calls Tryz.prog 42 #[.slice a l.length cap] w fun e w' => ∃ g, e = .returned (.slice (some ⟨g, 0, none⟩) (l.length + 8) (l.length + 8)) ∧ w.heap.size ≤ g ∧ RowP w' g (l ++ marksTo 8) ∧ Below w.heap.size w w' := by
  have w8 : IntKind.i64.wrap ((l.length : Int) + 8) = (l.length : Int) + 8 := wrap_id (by omega) (by omega)
  go_enter Tryz.func42, Tryz.ntmps42
  go_wp2_with (first
    | (refine wpList_make_pt _ (by rfl) (.tmp 7) (.tmp 7) (by rfl) .i64 .i64 (l.length + 8) ((l.length : Int) + 8) (by rfl) (by rfl) (by omega) (by omega) ?_)
    | (refine wpList_copy_pts (by rfl) (.tmp 9) (.tmp 10) (by rfl) w.heap.size (l.length + 8) a l cap (by rfl) (by rfl) (RawAt.below hr (below1 _ _)) (heap_alloc_new _ _) ?_; intro w1 hrow hgrow))
  have hb1 : Below w.heap.size w w1 := (below1 w _).grown hgrow (by simp) (fun k hk => by cases hk; exact Nat.le_refl _)
  clear hgrow w8
  go_loopw [4] (fun i wr => ∃ k : Nat, k ≤ 8 ∧ i = .int .i64 k ∧ RowP wr w.heap.size (l ++ marksTo k) ∧ Below w.heap.size w wr) (fun i _ => 8 - (intOf i).toNat)
  case atStart => exact ⟨0, by omega, rfl, hrow, hb1⟩
  case round =>
    clear hrow hb1
    obtain ⟨k, hk, rfl, hrow, hb⟩ := hrel
    by_cases hk8 : k < 8
    · have HP : Hid (RowP ((wr.setCell ⟨w.heap.size, (l.length + k) * 2, none⟩ (.int .i64 77)).setCell ⟨w.heap.size, (l.length + k) * 2 + 1, none⟩ (.int .i64 (k : Int))) w.heap.size (l ++ marksTo (k + 1))) := by
        have := hrow.put (i := l.length + k) (by simp [marks_len]; omega) 77 (k : Int)
        rwa [marks_set l k hk8] at this
      have HB : Hid (Below w.heap.size w ((wr.setCell ⟨w.heap.size, (l.length + k) * 2, none⟩ (.int .i64 77)).setCell ⟨w.heap.size, (l.length + k) * 2 + 1, none⟩ (.int .i64 (k : Int)))) := (hb.setCell (p := ⟨w.heap.size, (l.length + k) * 2, none⟩) (Nat.le_refl _) _).setCell (p := ⟨w.heap.size, (l.length + k) * 2 + 1, none⟩) (Nat.le_refl _) _
      obtain ⟨d0, d1⟩ := hrow.pts (l.length + k) (by simp [marks_len]; omega)
      rw [Nat.zero_add] at d0 d1
      have f0 := hrow.frozen ((l.length + k) * 2)
      have f1 := hrow.frozen ((l.length + k) * 2 + 1)
      have x0 : (0 : Int) ≤ (l.length : Int) + (k : Int) := by omega
      have x1 : (l.length : Int) + (k : Int) < ((l.length + 8 : Nat) : Int) := by omega
      have x2 : IntKind.i64.wrap ((l.length : Int) + (k : Int)) = (l.length : Int) + (k : Int) := wrap_id (by omega) (by omega)
      have x3 : ((l.length : Int) + (k : Int)).toNat = l.length + k := by omega
      have x4 : IntKind.i64.wrap ((k : Int) + 1) = (k : Int) + 1 := wrap_id (by omega) (by omega)
      have x5 : (k : Int) < 8 := by omega
      clear hrow hb
      go_wp2
      go_roundw
      case rel => exact ⟨k + 1, by omega, by go_num, HP.out, HB.out⟩
      case measure => simp [intOf]; omega
    · have e : k = 8 := by omega
      subst e
      go_wp2
      go_ret
      exact ⟨_, rfl, Nat.le_refl _, hrow, hb⟩

theorem grown_draw (w : World) (o : Obj) (n : Nat) : w.grownBy ((w.alloc o).drewN n) none := ⟨rfl, rfl, rfl, by simp [World.drewN], fun k hk _ => Below.heap_alloc w o k hk⟩
/-- written over, up to k -/
def overTo (k : Nat) (m : List Pt) : List Pt := List.replicate k (-7, -7) ++ m.drop k
theorem over_len {k : Nat} {m : List Pt} (h : k ≤ m.length) : (overTo k m).length = m.length := by simp [overTo]; omega
theorem over_set {k : Nat} {m : List Pt} (h : k < m.length) : (overTo k m).set k (-7, -7) = overTo (k + 1) m := by
  unfold overTo
  rw [List.set_append_right _ _ (by simp), List.length_replicate, Nat.sub_self, List.replicate_succ', List.append_assoc]
  congr 1
  rw [List.drop_eq_getElem_cons h]
  rfl
theorem over_get {k : Nat} {m : List Pt} (h : k < m.length) : (overTo k m).getD k (0, 0) = m.getD k (0, 0) := by
  unfold overTo
  simp only [List.getD_eq_getElem?_getD]
  rw [List.getElem?_append_right (by simp)]
  simp
theorem lent_low {l : List Pt} {k : Nat} (h : k < l.length) : (l ++ marksTo 8).getD k (0, 0) = l.getD k (0, 0) := by
  simp [List.getElem?_append_left h]
theorem lent_high {l : List Pt} {k : Nat} (h : ¬ k < l.length) (h8 : k < l.length + 8) : (l ++ marksTo 8).getD k (0, 0) = (77, (k : Int) - (l.length : Int)) := by
  have e : (l ++ marksTo 8).getD k (0, 0) = (marksTo 8).getD (k - l.length) (0, 0) := by
    simp [List.getElem?_append_right (Nat.le_of_not_lt h)]
  rw [e, marks_get _ (by omega)]
  congr 1
  omega

set_option maxHeartbeats 1600000 in
theorem returned_any (g cap : Nat) (a : Option Addr) (lc : Nat) (l : List Pt) (w : World) (hr : RawAt w a l) (hg : RowP w g (l ++ marksTo 8)) (hne : ∀ b off, a = some ⟨b, off, none⟩ → l ≠ [] → b ≠ g) (hl : l.length ≤ 8796093021952) :
    Calls Tryz.prog 47 #[.slice (some ⟨g, 0, none⟩) (l.length + 8) cap, .slice a l.length lc] w fun e w' => e = .returned (.bool true) ∧ w.grownBy w' (some g) := by
  have KEY : Hid (∀ k wr, w.grownBy wr (some g) → k < l.length → ∃ b off, a = some ⟨b, off, none⟩ ∧ b < wr.heap.size ∧ wr.cell? ⟨b, off + k * 2, none⟩ = some (.int .i64 (l.getD k (0, 0)).1) ∧ wr.cell? ⟨b, off + k * 2 + 1, none⟩ = some (.int .i64 (l.getD k (0, 0)).2)) := by
    intro k wr hgr hk
    rcases hr with rfl | ⟨b, off, rfl, hb, hp⟩
    · simp at hk
    · have hn : some b ≠ some g := fun e => hne b off rfl (fun e => by rw [e] at hk; simp at hk) (by cases e; rfl)
      exact ⟨b, off, rfl, Nat.lt_of_lt_of_le hb hgr.size, (hgr.cell_far ⟨b, off + k * 2, none⟩ hb hn).trans (hp k hk).1, (hgr.cell_far ⟨b, off + k * 2 + 1, none⟩ hb hn).trans (hp k hk).2⟩
  have hml : (l ++ marksTo 8).length = l.length + 8 := by simp [marks_len]
  clear hr hne
  go_enter Tryz.func47, Tryz.ntmps47
  go_wp2
  go_loopw [5, 6] (fun o i wr => ∃ k : Nat, k ≤ l.length + 8 ∧ i = .int .i64 k ∧ o = .bool true ∧ RowP wr g (overTo k (l ++ marksTo 8)) ∧ w.grownBy wr (some g)) (fun _ i _ => l.length + 8 - (intOf i).toNat)
  case atStart => exact ⟨0, by omega, rfl, rfl, hg, grown_refl _ _⟩
  case round =>
    clear hg
    obtain ⟨k, hk, rfl, rfl, hrow, hgr⟩ := hrel
    by_cases hlt : k < l.length + 8
    · have hkm : k < (l ++ marksTo 8).length := by omega
      obtain ⟨d0, d1⟩ := hrow.pts k (by rw [over_len (by omega)]; exact hkm)
      rw [over_get hkm, Nat.zero_add] at d0 d1
      have HP : Hid (∀ W, wr.grownBy W none → RowP ((W.setCell ⟨g, k * 2, none⟩ (.int .i64 (-7))).setCell ⟨g, k * 2 + 1, none⟩ (.int .i64 (-7))) g (overTo (k + 1) (l ++ marksTo 8)) ∧ w.grownBy ((W.setCell ⟨g, k * 2, none⟩ (.int .i64 (-7))).setCell ⟨g, k * 2 + 1, none⟩ (.int .i64 (-7))) (some g)) := by
        intro W hW
        have h1 : RowP W g (overTo k (l ++ marksTo 8)) := hrow.keep (hW.block g hrow.lt (by simp))
        have h2 := h1.put (i := k) (by rw [over_len (by omega)]; exact hkm) (-7) (-7)
        rw [over_set hkm] at h2
        exact ⟨h2, grown_put (hgr.trans ⟨hW.os, hW.tape, hW.output, hW.size, fun j hj _ => hW.block j hj (by simp)⟩) _ _ _ _⟩
      have hgl := hrow.lt
      have f0 := hrow.frozen (k * 2)
      have f1 := hrow.frozen (k * 2 + 1)
      have x0 : (0 : Int) ≤ (k : Int) := by omega
      have x1 : (k : Int) < ((l.length + 8 : Nat) : Int) := by omega
      have x2 : IntKind.i64.wrap ((k : Int) - (l.length : Int)) = (k : Int) - (l.length : Int) := wrap_id (by omega) (by omega)
      have x4 : IntKind.i64.wrap ((k : Int) + 1) = (k : Int) + 1 := wrap_id (by omega) (by omega)
      by_cases hkl : k < l.length
      · obtain ⟨b, off, rfl, hb, c0, c1⟩ := KEY.out k wr hgr hkl
        rw [lent_low hkl] at d0 d1
        have x5 : (k : Int) < (l.length : Int) := by omega
        generalize (l.getD k (0, 0)).1 = lx at *
        generalize (l.getD k (0, 0)).2 = ly at *
        clear hrow hgr KEY
        go_wp2_with fail
        go_quiet (fail)
        go_wp2
        go_roundw
        case rel => exact ⟨k + 1, by omega, by go_num, rfl, (HP.out _ (grown_draw wr _ nq)).1, (HP.out _ (grown_draw wr _ nq)).2⟩
        case measure => simp [intOf]; omega
      · rw [lent_high hkl hlt] at d0 d1
        have x5 : ¬ ((k : Int) < (l.length : Int)) := by omega
        simp only at d0 d1
        clear hrow hgr KEY
        go_wp2_with fail
        go_quiet (fail)
        go_wp2
        go_roundw
        case rel => exact ⟨k + 1, by omega, by go_num, rfl, (HP.out _ (grown_draw wr _ nq)).1, (HP.out _ (grown_draw wr _ nq)).2⟩
        case measure => simp [intOf]; omega
    · have e : k = l.length + 8 := by omega
      subst e
      go_wp2
      go_ret
      exact ⟨rfl, hgr⟩

/-- a list of whole numbers -/
def IntsAt (w : World) (v : Value) (c : List Nat) : Prop := ∃ a cap, v = .slice a c.length cap ∧ (c = [] ∨ ∃ g, a = some ⟨g, 0, none⟩ ∧ g < w.heap.size ∧ NatsAt w g 0 c)
theorem IntsAt.below {w w' : World} {v : Value} {c : List Nat} (h : IntsAt w v c) (hb : Below w.heap.size w w') : IntsAt w' v c := by
  obtain ⟨a, cap, rfl, h⟩ := h
  refine ⟨a, cap, rfl, ?_⟩
  rcases h with h | ⟨g, ha, hg, hn⟩
  · exact .inl h
  · exact .inr ⟨g, ha, Nat.lt_of_lt_of_le hg hb.size, hn.below hb hg⟩
theorem IntsAt.own {w : World} {base : Nat} {v : Value} {c : List Nat} (h : w.ownsRow base 3 1 v c.length (c.map toV)) : IntsAt w v c := by
  obtain ⟨hl, hn⟩ := h
  rcases hn with ⟨rfl, h0⟩ | ⟨g, cap, cur, rfl, hg, hh, h1, h2, h3, h4⟩
  · have : c = [] := List.length_eq_zero_iff.1 h0
    subst this
    exact ⟨none, 0, rfl, .inl rfl⟩
  · refine ⟨_, cap, rfl, .inr ⟨g, rfl, (Array.getElem?_eq_some_iff.1 hh).1, ?_⟩⟩
    intro j hj
    have : cur[j]? = some (toV (c.getD j 0)) := by
      have e : (List.map toV c)[j]? = some (toV (c.getD j 0)) := by simp [hj]
      rw [← h4, List.getElem?_take] at e
      split at e
      · simpa using e
      · cases e
    simp [World.cell?, hh, this, toV]

set_option maxHeartbeats 800000 in
theorem sameInts_any (va vb : Value) (c : List Nat) (w : World) (ha : IntsAt w va c) (hb : IntsAt w vb c) (hc : c.length ≤ 60) :
    Calls Tryz.prog 45 #[va, vb] w fun e w' => e = .returned (.bool true) ∧ Below w.heap.size w w' := by
  obtain ⟨aa, ac, rfl, ha⟩ := ha
  obtain ⟨ba, bc, rfl, hb⟩ := hb
  have c60 : (c.length : Int) ≤ 60 := by omega
  have HA : Hid (c = [] ∨ ∃ g, aa = some ⟨g, 0, none⟩ ∧ g < w.heap.size ∧ NatsAt w g 0 c) := ha
  have HB : Hid (c = [] ∨ ∃ g, ba = some ⟨g, 0, none⟩ ∧ g < w.heap.size ∧ NatsAt w g 0 c) := hb
  clear ha hb
  go_enter Tryz.func45, Tryz.ntmps45
  go_wp2
  go_loopw [5] (fun i wr => ∃ k : Nat, k ≤ c.length ∧ i = .int .i64 k ∧ Below w.heap.size w wr) (fun i _ => c.length - (intOf i).toNat)
  case atStart => exact ⟨0, by omega, rfl, Below.refl _ _⟩
  case round =>
    obtain ⟨k, hk, rfl, hnx⟩ := hrel
    by_cases hlt : k < c.length
    · rcases HA.out with rfl | ⟨g, rfl, hg, hn⟩
      · simp at hlt
      rcases HB.out with rfl | ⟨h, rfl, hh, hm⟩
      · simp at hlt
      have c0 := (hn.below hnx hg) k hlt
      have c1 := (hm.below hnx hh) k hlt
      rw [Nat.zero_add] at c0 c1
      generalize c.getD k 0 = u at *
      have x0 : (0 : Int) ≤ (k : Int) := by omega
      have x1 : (k : Int) < (c.length : Int) := by omega
      have x4 : IntKind.i64.wrap ((k : Int) + 1) = (k : Int) + 1 := wrap_id (by omega) (by omega)
      clear hn hm HA HB
      go_wp2_with fail
      go_quiet (fail)
      go_wp2
      go_roundw
      case rel => exact ⟨k + 1, by omega, by go_num, below_drewN hnx⟩
      case measure => simp [intOf]; omega
    · go_wp2
      go_ret
      exact ⟨rfl, hnx⟩

end Go.Proofs.YtgpapegpdfonpaaGreatDoor
