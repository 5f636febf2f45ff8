/-
  A net of the statement (a mesh, and what must be in it): in memory.
  The statement's net: a point comes.
-/
import Derived.Test.YtgpapegpdfonpaaGreatPtsX
namespace Go.Proofs.YtgpapegpdfonpaaGreat
set_option linter.unusedVariables false
set_option linter.unusedSimpArgs false
open Go.RowKit
attribute [local go_sem ↓] Go.wp_at_zero Go.wp_at_succ

structure ND where
  X : Nat
  m : Nat
  pts : List Pt
  nums : List Int
  ever : Nat
structure NAt (w : World) (tag : Nat → Nat) (i : Nat) (d : ND) (vP vN vA vM : Value) : Prop where
  blk : w.heap[d.X]? = some (.cells #[.pointer (some ⟨d.m, 0, none⟩), vP, vN, .int .i64 (d.ever : Int)] 28 (0, 0))
  ownP : w.ownsRow 0 32 2 vP d.pts.length (cellsP d.pts)
  ownN : w.ownsRow 0 3 1 vN d.nums.length (d.nums.map (.int .i64))
  row : PRow w d.m d.pts d.nums d.ever vA vM
  ok : MOk d.pts d.nums d.ever
  tX : tag d.X = i
  tP : ∀ g, vP.ownBlock = some g → tag g = i
  tN : ∀ g, vN.ownBlock = some g → tag g = i
  tm : tag d.m = i + 1
  tA : ∀ g, vA.ownBlock = some g → tag g = i + 1
  tM : ∀ g, vM.ownBlock = some g → tag g = i + 1
def NetIs (w : World) (tag : Nat → Nat) (i : Nat) (d : ND) : Prop := ∃ vP vN vA vM, NAt w tag i d vP vN vA vM
/-- what a step on a net leaves -/
def TagN (w : World) (tag : Nat → Nat) : Prop := ∀ k, tag k ≠ 0 → k < w.heap.size
structure NPost (w w' : World) (tag tag' : Nat → Nat) (i : Nat) (d' : ND) : Prop where
  agree : ∀ k, k < w.heap.size → tag' k = tag k
  tagged : TagN w' tag'
  net : NetIs w' tag' i d'
  chg : Chg (fun k => tag k = i ∨ tag k = i + 1) w w'
section
variable {w w' : World} {tag tag' : Nat → Nat} {i : Nat} {d : ND} {vP vN vA vM : Value}
theorem NAt.keep (h : NAt w tag i d vP vN vA vM) (hk : ∀ k, k < w.heap.size → tag k = i ∨ tag k = i + 1 → w'.heap[k]? = w.heap[k]? ∧ tag' k = tag k) : NAt w' tag' i d vP vN vA vM := by
  obtain ⟨e1, e2⟩ := hk d.X (lt_some h.blk) (.inl h.tX)
  obtain ⟨f1, f2⟩ := hk d.m h.row.lt (.inr h.tm)
  have kp := fun g hg => hk g (ownS_lt h.ownP hg) (.inl (h.tP g hg))
  have kn := fun g hg => hk g (ownS_lt h.ownN hg) (.inl (h.tN g hg))
  have ka := fun g hg => hk g (ownS_lt h.row.ownA hg) (.inr (h.tA g hg))
  have km := fun g hg => hk g (ownS_lt h.row.ownN hg) (.inr (h.tM g hg))
  exact ⟨by rw [e1]; exact h.blk, ownS_keep h.ownP fun g hg => (kp g hg).1, ownS_keep h.ownN fun g hg => (kn g hg).1, h.row.keep f1 (fun g hg => (ka g hg).1) (fun g hg => (km g hg).1), h.ok,
    e2.trans h.tX, fun g hg => (kp g hg).2.trans (h.tP g hg), fun g hg => (kn g hg).2.trans (h.tN g hg), f2.trans h.tm, fun g hg => (ka g hg).2.trans (h.tA g hg), fun g hg => (km g hg).2.trans (h.tM g hg)⟩
theorem NAt.below (h : NAt w tag i d vP vN vA vM) (hb : Below w.heap.size w w') : NAt w' tag i d vP vN vA vM := h.keep fun k hk _ => ⟨hb.block k hk, rfl⟩
theorem NAt.lt (h : NAt w tag i d vP vN vA vM) : d.X < w.heap.size := lt_some h.blk
theorem NAt.cells (h : NAt w tag i d vP vN vA vM) : w.cell? ⟨d.X, 0, none⟩ = some (.pointer (some ⟨d.m, 0, none⟩)) ∧ w.cell? ⟨d.X, 1, none⟩ = some vP ∧ w.cell? ⟨d.X, 2, none⟩ = some vN ∧ w.cell? ⟨d.X, 3, none⟩ = some (.int .i64 (d.ever : Int)) ∧ ∀ j, w.frozen? ⟨d.X, j, none⟩ = false := by
  have hb := h.blk
  simp [World.cell?, World.frozen?, hb]
theorem NetIs.keep (h : NetIs w tag i d) (hk : ∀ k, k < w.heap.size → tag k = i ∨ tag k = i + 1 → w'.heap[k]? = w.heap[k]? ∧ tag' k = tag k) : NetIs w' tag' i d := by
  obtain ⟨vP, vN, vA, vM, h⟩ := h
  exact ⟨vP, vN, vA, vM, h.keep hk⟩
theorem NetIs.below (h : NetIs w tag i d) (hb : Below w.heap.size w w') : NetIs w' tag i d := h.keep fun k hk _ => ⟨hb.block k hk, rfl⟩
/-- another net stays -/
theorem NPost.other {j : Nat} {d2 d' : ND} (h : NPost w w' tag tag' i d') (h2 : NetIs w tag j d2) (h1 : j ≠ i) (h3 : j ≠ i + 1) (h4 : j + 1 ≠ i) : NetIs w' tag' j d2 :=
  h2.keep fun k hk ht => ⟨h.chg.far k hk (by omega), h.agree k hk⟩
theorem NPost.same (h : NetIs w tag i d) (hT : TagN w tag) (hb : Below w.heap.size w w') : NPost w w' tag tag i d :=
  ⟨fun _ _ => rfl, fun k hk => Nat.lt_of_lt_of_le (hT k hk) hb.size, h.below hb, Chg.of_below hb⟩
theorem NPost.trans {w1 w2 w3 : World} {t1 t2 t3 : Nat → Nat} {d1 d2 : ND} (h : NPost w1 w2 t1 t2 i d1) (k : NPost w2 w3 t2 t3 i d2) : NPost w1 w3 t1 t3 i d2 :=
  ⟨fun q hq => (k.agree q (Nat.lt_of_lt_of_le hq h.chg.size)).trans (h.agree q hq), k.tagged, k.net, h.chg.trans k.chg fun q hq hF => by rw [h.agree q hq] at hF; exact hF⟩
end

/-! ### the mesh's calls on a net -/
/-- a mesh behind a call, its net as it was: the row of a net's own -/
structure NMid (w w' : World) (tag tag' : Nat → Nat) (i : Nat) (d d' : ND) (vP vN vA' vM' : Value) : Prop where
  agree : ∀ k, k < w.heap.size → tag' k = tag k
  tagged : TagN w' tag'
  blk : w'.heap[d.X]? = some (.cells #[.pointer (some ⟨d.m, 0, none⟩), vP, vN, .int .i64 (d.ever : Int)] 28 (0, 0))
  ownP : w'.ownsRow 0 32 2 vP d.pts.length (cellsP d.pts)
  ownN : w'.ownsRow 0 3 1 vN d.nums.length (d.nums.map (.int .i64))
  row : PRow w' d.m d'.pts d'.nums d'.ever vA' vM'
  ok : MOk d'.pts d'.nums d'.ever
  tA : ∀ g, vA'.ownBlock = some g → tag' g = i + 1
  tM : ∀ g, vM'.ownBlock = some g → tag' g = i + 1
  chg : Chg (fun k => tag k = i + 1) w w'
theorem MOk.more' {pts : List Pt} {nums : List Int} {ever : Nat} {p : Pt} (h : MOk pts nums ever) (h0 : insE pts p = 0) : MOk (pts ++ [p]) (nums ++ [(ever : Int)]) (ever + 1) := by
  unfold insE at h0
  split at h0
  · omega
  · rename_i hf
    split at h0
    · omega
    · rename_i hm
      split at h0
      · omega
      · rename_i h60
        have hpn := farB_near (by simpa using hf)
        refine ⟨by simp [h.len], by simp; have := h.le; omega, ?_, ?_, ?_, ?_⟩
        · intro i hi
          simp at hi
          by_cases c : i < pts.length
          · have := h.near i c
            have e : ptAt (pts ++ [p]) i = ptAt pts i := by unfold ptAt px py; simp [List.getElem?_append_left c]
            unfold ptAt at e
            rw [(Prod.mk.inj e).1, (Prod.mk.inj e).2]; exact this
          · have : i = pts.length := by omega
            subst this
            have e : ptAt (pts ++ [p]) pts.length = p := by unfold ptAt px py; simp
            unfold ptAt at e
            rw [show px (pts ++ [p]) pts.length = p.1 from congrArg Prod.fst e, show py (pts ++ [p]) pts.length = p.2 from congrArg Prod.snd e]; exact hpn
        · rw [List.nodup_append]
          exact ⟨h.nd, by simp, fun a ha b hb e => by simp at hb; subst hb e; exact hm ha⟩
        · rw [List.pairwise_append]
          exact ⟨h.inc, by simp, fun a ha b hb => by simp at hb; subst hb; exact (h.rng a ha).2⟩
        · intro n hn
          rcases List.mem_append.1 hn with hn | hn
          · have := h.rng n hn; omega
          · simp at hn; omega
theorem MOk.less' {pts : List Pt} {nums : List Int} {ever i : Nat} (h : MOk pts nums ever) (hi : i < nums.length) : MOk (pts.eraseIdx i) (nums.eraseIdx i) ever := by
  have sub := List.eraseIdx_sublist pts i
  refine ⟨?_, Nat.le_trans sub.length_le h.le, ?_, sub.nodup h.nd, h.inc.sublist (List.eraseIdx_sublist nums i), fun n hn => h.rng n ((List.eraseIdx_sublist nums i).subset hn)⟩
  · rw [List.length_eraseIdx, List.length_eraseIdx, h.len]
  · intro j hj
    have hm : ptAt (pts.eraseIdx i) j ∈ pts := sub.subset (ptAt_mem hj)
    obtain ⟨q, hq, e⟩ := List.getElem_of_mem hm
    have := h.near q hq
    have e2 : ptAt pts q = ptAt (pts.eraseIdx i) j := by rw [← e]; unfold ptAt px py; simp [hq]
    unfold ptAt at e2
    rw [← (Prod.mk.inj e2).1, ← (Prod.mk.inj e2).2]; exact this
/-- Insert on a net -/
theorem nins_any (w : World) (tag : Nat → Nat) (i : Nat) (d : ND) (vP vN vA vM : Value) (px py : Int) (H : NAt w tag i d vP vN vA vM) (hT : TagN w tag) (hi : i ≠ 0) (hev : d.ever ≤ 2000000000000) :
    Calls Tryz.prog 12 #[.pointer (some ⟨d.m, 0, none⟩), .agg #[.int .i64 px, .int .i64 py]] w fun e w' => ∃ n tag' vA' vM' d', e = .returned (.tuple #[.int .i64 n, .int .i64 (insE d.pts (px, py))]) ∧ NMid w w' tag tag' i d d' vP vN vA' vM' ∧
      ((insE d.pts (px, py) ≠ 0 ∧ n = 0 ∧ d' = d) ∨ (insE d.pts (px, py) = 0 ∧ n = d.ever ∧ d' = ⟨d.X, d.m, d.pts ++ [(px, py)], d.nums ++ [(d.ever : Int)], d.ever + 1⟩)) := by
  refine (minsert_any d.m d.pts d.nums d.ever vA vM px py w H.row H.ok hev).mono ?_
  rintro e w' ⟨n, rfl, hI⟩
  rcases hI with ⟨h1, h2, hb⟩ | ⟨h1, h2, vA', vM', hP', hc, a1, a2⟩
  · have H' := H.below hb
    exact ⟨n, tag, vA, vM, d, rfl, ⟨fun _ _ => rfl, fun k hk => Nat.lt_of_lt_of_le (hT k hk) hb.size, H'.blk, H'.ownP, H'.ownN, H'.row, H'.ok, H'.tA, H'.tM, Chg.of_below hb⟩, .inl ⟨h1, h2, rfl⟩⟩
  · have hF : ∀ k, k < w.heap.size → chgI d.m vA vM k → tag k = i + 1 := fun k hk hF => by
      rcases hF with rfl | hF | hF
      · exact H.tm
      · exact H.tA k hF
      · exact H.tM k hF
    have far : ∀ k, k < w.heap.size → tag k = i → w'.heap[k]? = w.heap[k]? := fun k hk ht => hc.far k hk fun g => by have := hF k hk g; omega
    refine ⟨n, fun k => if k < w.heap.size then tag k else if vA'.ownBlock = some k ∨ vM'.ownBlock = some k then i + 1 else 0, vA', vM', ⟨d.X, d.m, d.pts ++ [(px, py)], d.nums ++ [(d.ever : Int)], d.ever + 1⟩, rfl, ⟨fun k hk => if_pos hk, fun k hk => ?_, ?_, ?_, ?_, hP', H.ok.more' h1, fun g hg => ?_, fun g hg => ?_, hc.mono hF⟩, .inr ⟨h1, h2, rfl⟩⟩
    · by_cases c : k < w.heap.size
      · exact Nat.lt_of_lt_of_le c hc.size
      · simp only [if_neg c] at hk
        by_cases c2 : vA'.ownBlock = some k ∨ vM'.ownBlock = some k
        · rcases c2 with c2 | c2
          · exact ownS_lt hP'.ownA c2
          · exact ownS_lt hP'.ownN c2
        · simp [if_neg c2] at hk
    · rw [far d.X H.lt H.tX]; exact H.blk
    · exact ownS_keep H.ownP fun g hg => far g (ownS_lt H.ownP hg) (H.tP g hg)
    · exact ownS_keep H.ownN fun g hg => far g (ownS_lt H.ownN hg) (H.tN g hg)
    · show (if g < w.heap.size then tag g else _) = i + 1
      by_cases c : g < w.heap.size
      · rw [if_pos c]
        rcases a1 g hg with a | a
        · exact H.tA g a
        · omega
      · rw [if_neg c, if_pos (.inl hg)]
    · show (if g < w.heap.size then tag g else _) = i + 1
      by_cases c : g < w.heap.size
      · rw [if_pos c]
        rcases a2 g hg with a | a
        · exact H.tM g a
        · omega
      · rw [if_neg c, if_pos (.inr hg)]
end Go.Proofs.YtgpapegpdfonpaaGreat

namespace Go.Proofs.YtgpapegpdfonpaaGreat
set_option linter.unusedVariables false
set_option linter.unusedSimpArgs false
open Go.RowKit
attribute [local go_sem ↓] Go.wp_at_zero Go.wp_at_succ

/-! ### 'x.f = append(x.f, v)' -/
structure AppX (V : World) (X BX : Nat) (T : TypeId) (s : Nat) (v : Value) (n : Nat) (xs news : List Value) (vals : Nat → Option Value) (iB iA iS : Nat) (cf : Value → Array Value) (L : Nat → Bool) (σ : Nat → Value) (w : World) : Prop where
  val : ∀ j u, vals j = some u → L j = true → σ j = u
  fA : Fap V T s v n xs news (L iB) (L iA) (σ iB) (σ iA) w
  fX : w.heap[X]? = some (.cells (cf (if L iS then σ iA else v)) 28 (0, 0))
  chg : Chg (fun k => k = X ∨ v.ownBlock = some k) V w
  box : L iA = false → ∀ o, w.cell? ⟨BX, o, none⟩ = V.cell? ⟨BX, o, none⟩
section
variable {V w w' : World} {X BX : Nat} {T : TypeId} {s n : Nat} {v u : Value} {xs news : List Value} {vals : Nat → Option Value} {iB iA iS i : Nat} {cf : Value → Array Value} {L : Nat → Bool} {σ : Nat → Value}
theorem AppX.stepV (h : AppX V X BX T s v n xs news vals iB iA iS cf L σ w) (hv : vals i = some u) (h1 : i ≠ iB) (h2 : i ≠ iA) (h3 : i ≠ iS) : AppX V X BX T s v n xs news vals iB iA iS cf (fun j => if j = i then true else L j) (fun j => if j = i then u else σ j) w := by
  refine ⟨fun j z hj hl => ?_, ?_, ?_, h.chg, ?_⟩
  · by_cases e : j = i
    · subst e; rw [hv] at hj; cases hj; simp
    · simp only [if_neg e] at hl ⊢; exact h.val j z hj hl
  · simp only [if_neg (Ne.symm h1), if_neg (Ne.symm h2)]; exact h.fA
  · simp only [if_neg (Ne.symm h2), if_neg (Ne.symm h3)]; exact h.fX
  · simp only [if_neg (Ne.symm h2)]; exact h.box
theorem AppX.stepB (h : AppX V X BX T s v n xs news vals iB iA iS cf L σ w) (hv : vals iB = none) (hB : L iB = false) (hA : L iA = false) (h2 : iA ≠ iB) (h3 : iS ≠ iB) (hbx : BX < V.heap.size) : AppX V X BX T s v n xs news vals iB iA iS cf (fun j => if j = iB then true else L j) (fun j => if j = iB then .slice (some ⟨w.heap.size, 0, none⟩) 1 1 else σ j) (w.alloc (.cells news.toArray T)) := by
  have fA := h.fA
  rw [hB, hA] at fA
  refine ⟨fun j z hj hl => ?_, ?_, ?_, h.chg.trans (Chg.of_below (below1 _ _)) fun _ _ g => g, fun hl o => ?_⟩
  · have e : j ≠ iB := fun e => by rw [e, hv] at hj; cases hj
    simp only [if_neg e] at hl ⊢; exact h.val j z hj hl
  · simp only [if_neg h2, if_true, hA]; exact fA.build h.chg.size
  · simp only [if_neg h2, if_neg h3]; exact keepsT_alloc _ _ _ _ _ h.fX
  · rw [World.cell?_alloc_past _ _ _ (Nat.lt_of_lt_of_le hbx h.chg.size)]; exact h.box hA o
theorem AppX.stepA (h : AppX V X BX T s v n xs news vals iB iA iS cf L σ w) (hv : vals iA = none) (hB : L iB = true) (hS : L iS = false) (h2 : iB ≠ iA) (h3 : iS ≠ iA) (hT : 28 ≠ T)
    (fA : Fap V T s v n xs news true true (σ iB) u w') (hk : ∀ T', T' ≠ T → KeepsT T' w w') (hc : Chg (fun k => v.ownBlock = some k) w w') : AppX V X BX T s v n xs news vals iB iA iS cf (fun j => if j = iA then true else L j) (fun j => if j = iA then u else σ j) w' := by
  refine ⟨fun j z hj hl => ?_, ?_, ?_, h.chg.trans hc fun _ _ g => .inr g, fun hl => by simp at hl⟩
  · have e : j ≠ iA := fun e => by rw [e, hv] at hj; cases hj
    simp only [if_neg e] at hl ⊢; exact h.val j z hj hl
  · simp only [if_neg h2, if_true, hB]; exact fA
  · have fX := h.fX
    rw [hS] at fX
    simp only [if_neg h3, hS]
    exact hk _ hT _ _ fX
theorem AppX.stepS (h : AppX V X BX T s v n xs news vals iB iA iS cf L σ w) (hv : vals iS = none) (hA : L iA = true) (hS : L iS = false) (h2 : iB ≠ iS) (h3 : iA ≠ iS) (hT : T ≠ 28) {q : Nat} (hq : (cf v).setIfInBounds q (σ iA) = cf (σ iA)) :
    AppX V X BX T s v n xs news vals iB iA iS cf (fun j => if j = iS then true else L j) (fun j => if j = iS then u else σ j) (w.setCell ⟨X, q, none⟩ (σ iA)) := by
  have fX := h.fX
  rw [hS] at fX
  simp only [Bool.false_eq_true, if_false] at fX
  have st := heap_setCell_same w X q _ _ (σ iA) fX
  refine ⟨fun j z hj hl => ?_, ?_, ?_, h.chg.trans ⟨rfl, rfl, rfl, by simp [World.setCell], fun k _ hk => Below.heap_setCell _ _ _ _ fun e => hk (.inl e)⟩ fun _ _ g => g, fun hl => ?_⟩
  · have e : j ≠ iS := fun e => by rw [e, hv] at hj; cases hj
    simp only [if_neg e] at hl ⊢; exact h.val j z hj hl
  · simp only [if_neg h2, if_neg h3]; exact h.fA.keep (keepsT_set fX hT)
  · simp only [if_true, if_neg h3]
    rw [← hq]; exact st
  · simp only [if_neg h3, hA] at hl; cases hl
theorem AppX.start (hA : V.ownsRow 0 T s v n xs) (hX : V.heap[X]? = some (.cells (cf v) 28 (0, 0))) : AppX V X BX T s v n xs news vals iB iA iS cf (fun _ => false) (fun _ => undef) V.drew :=
  ⟨(fun _ _ _ h => by cases h), ⟨(fun h => by cases h), fun _ => ⟨hA, fun h => by cases h⟩⟩, hX, ⟨rfl, rfl, rfl, Nat.le_refl _, fun _ _ _ => rfl⟩, fun _ _ => rfl⟩
end
theorem run_field_N0 (w : World) (K : Nat) : (Instr.fieldAt 28 (.pointer (some ⟨K, 0, none⟩)) 0).run Tryz.prog w = .ok (.pointer (some ⟨K, 0, none⟩)) w := by go_simp
theorem run_field_N1 (w : World) (K : Nat) : (Instr.fieldAt 28 (.pointer (some ⟨K, 0, none⟩)) 1).run Tryz.prog w = .ok (.pointer (some ⟨K, 1, none⟩)) w := by go_simp
theorem run_field_N2 (w : World) (K : Nat) : (Instr.fieldAt 28 (.pointer (some ⟨K, 0, none⟩)) 2).run Tryz.prog w = .ok (.pointer (some ⟨K, 2, none⟩)) w := by go_simp
theorem run_field_N3 (w : World) (K : Nat) : (Instr.fieldAt 28 (.pointer (some ⟨K, 0, none⟩)) 3).run Tryz.prog w = .ok (.pointer (some ⟨K, 3, none⟩)) w := by go_simp
def valsNP (X : Nat) (vP : Value) (px py : Int) : Nat → Option Value
  | 0 => some (.pointer (some ⟨X, 0, none⟩))
  | 1 => some (.pointer (some ⟨X, 0, none⟩))
  | 2 => some (.pointer (some ⟨X, 0, none⟩))
  | 3 => some (.pointer (some ⟨X, 1, none⟩))
  | 4 => some vP
  | 5 => some (pv px py)
  | 8 => some (.pointer (some ⟨X, 0, none⟩))
  | 9 => some (.pointer (some ⟨X, 1, none⟩))
  | _ => none
def valsNN (X : Nat) (vN : Value) (ev : Int) : Nat → Option Value
  | 0 => some (.pointer (some ⟨X, 0, none⟩))
  | 1 => some (.pointer (some ⟨X, 0, none⟩))
  | 2 => some (.pointer (some ⟨X, 0, none⟩))
  | 3 => some (.pointer (some ⟨X, 2, none⟩))
  | 4 => some vN
  | 5 => some (.pointer (some ⟨X, 0, none⟩))
  | 6 => some (.pointer (some ⟨X, 0, none⟩))
  | 7 => some (.pointer (some ⟨X, 3, none⟩))
  | 8 => some (.int .i64 ev)
  | 11 => some (.pointer (some ⟨X, 0, none⟩))
  | 12 => some (.pointer (some ⟨X, 2, none⟩))
  | _ => none
/-- is a point there, among the first k -/
def memB (l : List Pt) (p : Pt) (k : Nat) : Bool := (l.take k).any fun q => q.1 == p.1 && q.2 == p.2
theorem memB_succ (l : List Pt) (p : Pt) {k : Nat} (hk : k < l.length) : memB l p (k + 1) = (memB l p k || ((l.getD k (0, 0)).1 == p.1 && (l.getD k (0, 0)).2 == p.2)) := by
  unfold memB
  have e : l.getD k (0, 0) = l[k] := by simp [hk]
  rw [List.take_succ_eq_append_getElem hk, List.any_append, e]
  simp
theorem memB_all (l : List Pt) (p : Pt) : memB l p l.length = decide (p ∈ l) := by
  rw [Bool.eq_iff_iff, decide_eq_true_iff]
  unfold memB
  rw [List.take_length, List.any_eq_true]
  constructor
  · rintro ⟨q, hq, h⟩
    simp only [Bool.and_eq_true, beq_iff_eq] at h
    have : q = p := Prod.ext h.1 h.2
    rw [← this]; exact hq
  · intro h
    exact ⟨p, h, by simp⟩
/-- a net whose own rows were put anew -/
theorem net_put {W1 W2 W3 : World} {tag tag1 : Nat → Nat} {i : Nat} {d d1 : ND} {vP vN vP' vN' vA1 vM1 : Value} (hM : NMid W1 W2 tag tag1 i d d1 vP vN vA1 vM1) (tX : tag1 d.X = i) (tP : ∀ g, vP.ownBlock = some g → tag1 g = i) (tN : ∀ g, vN.ownBlock = some g → tag1 g = i) (tm : tag1 d.m = i + 1)
    (hd : d1.X = d.X) (hd' : d1.m = d.m) (blk : W3.heap[d.X]? = some (.cells #[.pointer (some ⟨d.m, 0, none⟩), vP', vN', .int .i64 (d1.ever : Int)] 28 (0, 0)))
    (oP : W3.ownsRow 0 32 2 vP' d1.pts.length (cellsP d1.pts)) (oN : W3.ownsRow 0 3 1 vN' d1.nums.length (d1.nums.map (.int .i64))) (aP : ∀ g, vP'.ownBlock = some g → vP.ownBlock = some g ∨ W2.heap.size ≤ g) (aN : ∀ g, vN'.ownBlock = some g → vN.ownBlock = some g ∨ W2.heap.size ≤ g)
    (hc : Chg (fun k => k = d.X ∨ vP.ownBlock = some k ∨ vN.ownBlock = some k) W2 W3) : ∃ tag3, (∀ k, k < W2.heap.size → tag3 k = tag1 k) ∧ TagN W3 tag3 ∧ NetIs W3 tag3 i d1 ∧ Chg (fun k => tag1 k = i) W2 W3 := by
  have hF : ∀ k, k < W2.heap.size → (k = d.X ∨ vP.ownBlock = some k ∨ vN.ownBlock = some k) → tag1 k = i := fun k _ h => by
    rcases h with rfl | h | h
    · exact tX
    · exact tP k h
    · exact tN k h
  have far : ∀ k, k < W2.heap.size → tag1 k = i + 1 → W3.heap[k]? = W2.heap[k]? := fun k hk ht => hc.far k hk fun h => by have := hF k hk h; omega
  have hX2 : d.X < W2.heap.size := lt_some hM.blk
  refine ⟨fun k => if k < W2.heap.size then tag1 k else if vP'.ownBlock = some k ∨ vN'.ownBlock = some k then i else 0, fun k hk => if_pos hk, fun k hk => ?_, ⟨vP', vN', vA1, vM1, ⟨?_, oP, oN, ?_, hM.ok, ?_, fun g hg => ?_, fun g hg => ?_, ?_, fun g hg => ?_, fun g hg => ?_⟩⟩, hc.mono hF⟩
  · by_cases c : k < W2.heap.size
    · exact Nat.lt_of_lt_of_le c hc.size
    · simp only [if_neg c] at hk
      by_cases c2 : vP'.ownBlock = some k ∨ vN'.ownBlock = some k
      · rcases c2 with c2 | c2
        · exact ownS_lt oP c2
        · exact ownS_lt oN c2
      · simp [if_neg c2] at hk
  · rw [hd, hd']; exact blk
  · rw [hd']
    have hr := hM.row
    exact hr.keep (far d.m hr.lt tm) (fun g hg => far g (ownS_lt hr.ownA hg) (hM.tA g hg)) (fun g hg => far g (ownS_lt hr.ownN hg) (hM.tM g hg))
  · rw [hd]
    show (if d.X < W2.heap.size then tag1 d.X else _) = i
    rw [if_pos hX2]; exact tX
  · show (if g < W2.heap.size then tag1 g else _) = i
    by_cases c : g < W2.heap.size
    · rw [if_pos c]
      rcases aP g hg with a | a
      · exact tP g a
      · omega
    · rw [if_neg c, if_pos (.inl hg)]
  · show (if g < W2.heap.size then tag1 g else _) = i
    by_cases c : g < W2.heap.size
    · rw [if_pos c]
      rcases aN g hg with a | a
      · exact tN g a
      · omega
    · rw [if_neg c, if_pos (.inr hg)]
  · rw [hd']
    show (if d.m < W2.heap.size then tag1 d.m else _) = i + 1
    rw [if_pos hM.row.lt]; exact tm
  · show (if g < W2.heap.size then tag1 g else _) = i + 1
    rw [if_pos (ownS_lt hM.row.ownA hg)]; exact hM.tA g hg
  · show (if g < W2.heap.size then tag1 g else _) = i + 1
    rw [if_pos (ownS_lt hM.row.ownN hg)]; exact hM.tM g hg

/-- what a net is behind a point that came -/
def comesD (d : ND) (p : Pt) : ND := if p ∈ d.pts ∨ d.pts.length = 60 then d else ⟨d.X, d.m, d.pts ++ [p], d.nums ++ [(d.ever : Int)], d.ever + 1⟩

set_option maxRecDepth 100000 in
set_option maxHeartbeats 8000000 in
theorem comes_any (w : World) (tag : Nat → Nat) (i : Nat) (d : ND) (px py : Int) (H : NetIs w tag i d) (hT : TagN w tag) (hi : i ≠ 0) (hp : Near px py) (hev : d.ever ≤ 1000000) :
    Calls Tryz.prog 6 #[.pointer (some ⟨d.X, 0, none⟩), .agg #[.int .i64 px, .int .i64 py]] w fun e w' => e = .returned (.bool true) ∧ ∃ tag', NPost w w' tag tag' i (comesD d (px, py)) := by
  obtain ⟨vP, vN, vA, vM, H⟩ := H
  obtain ⟨iP, hiP, hzP, hsP, hbP⟩ := info_parts infoPt
  obtain ⟨i0, hi0, hz0, hs0, hb0'⟩ := info_parts info3
  have hle := H.ok.le
  have hn60 : d.nums.length ≤ 60 := by have := H.ok.len; omega
  obtain ⟨pa, pc, rfl⟩ := ownS_any H.ownP
  obtain ⟨na, nc, rfl⟩ := ownS_any H.ownN
  have hfar : farB px py = false := near_farB hp
  have hX0 := H.lt
  clear hp
  go_enter Tryz.func6, Tryz.ntmps6
  go_upto_region 1 with fail
  have hb0 := below1 w (.cells #[.int .i64 px, .int .i64 py] 32)
  have x0 : (w.alloc (.cells #[.int .i64 px, .int .i64 py] 32)).cell? ⟨w.heap.size, 0, none⟩ = some (.int .i64 px) := by rw [World.cell?_alloc_at _ _ _ _ (by simp)]; rfl
  have x1 : (w.alloc (.cells #[.int .i64 px, .int .i64 py] 32)).cell? ⟨w.heap.size, 1, none⟩ = some (.int .i64 py) := by rw [World.cell?_alloc_at _ _ _ _ (by simp)]; rfl
  have hs0' : (w.alloc (.cells #[.int .i64 px, .int .i64 py] 32)).heap.size = w.heap.size + 1 := by simp
  generalize w.alloc (.cells #[.int .i64 px, .int .i64 py] 32) = W at *
  have HW : Hid (NAt W tag i d (.slice pa d.pts.length pc) (.slice na d.nums.length nc) vA vM) := H.below hb0
  have HT : Hid (TagN W tag) := fun k hk => by have := hT k hk; omega
  have HB0 : Hid (Below w.heap.size w W) := hb0
  have c1 := HW.out.cells.2.1
  have hX : d.X < W.heap.size := by omega
  have hxW : w.heap.size < W.heap.size := by omega
  have htx : tag w.heap.size = 0 := by
    by_cases e : tag w.heap.size = 0
    · exact e
    · have := hT _ e; omega
  clear H hT hb0 hs0'
  generalize hBX : w.heap.size = BX at *
  go_upto_block 0 with fail
  go_cut [5, 6] (fun s5 _ wx => s5 = .bool (decide ((px, py) ∈ d.pts)) ∧ Below W.heap.size W wx)
  case first =>
    as_aux_lemma =>
    have HRA : Hid (RawAt W pa d.pts) := RowP.raw' HW.out.ownP
    clear HW HT
    go_wp2_with fail
    go_loopw [5, 6] (fun s5 s6 wr => ∃ k : Nat, k ≤ d.pts.length ∧ s6 = .int .i64 k ∧ s5 = .bool (memB d.pts (px, py) k) ∧ Below W.heap.size W wr) (fun _ j _ => d.pts.length - (intOf j).toNat)
    case atStart => exact ⟨0, Nat.zero_le _, rfl, rfl, Below.refl _ _⟩
    case round =>
      obtain ⟨k, hk, rfl, rfl, hbr⟩ := hrel
      have g1 := (hbr.cell (p := ⟨d.X, 1, none⟩) hX).trans c1
      have hKr : d.X < wr.heap.size := Nat.lt_of_lt_of_le hX hbr.size
      by_cases hkl : k < d.pts.length
      · rcases raw_below HRA.out hbr with h | ⟨b, off, rfl, hb, hp⟩
        · rw [h] at hkl; simp at hkl
        obtain ⟨q0, q1⟩ := hp k hkl
        have HS : Hid (memB d.pts (px, py) (k + 1) = (memB d.pts (px, py) k || ((d.pts.getD k (0, 0)).1 == px && (d.pts.getD k (0, 0)).2 == py))) := memB_succ _ _ hkl
        have z0 := (hbr.cell (p := ⟨BX, 0, none⟩) hxW).trans x0
        have z1 := (hbr.cell (p := ⟨BX, 1, none⟩) hxW).trans x1
        have y0 : (0 : Int) ≤ (k : Int) := by omega
        have y1 : (k : Int) < (d.pts.length : Int) := by omega
        have y2 : IntKind.i64.wrap ((k : Int) + 1) = (k : Int) + 1 := wrap_id (by omega) (by omega)
        generalize memB d.pts (px, py) k = jj at *
        generalize (d.pts.getD k (0, 0)).1 = qx at *
        generalize (d.pts.getD k (0, 0)).2 = qy at *
        clear hp
        cases jj with
        | true =>
          have HR : Hid (memB d.pts (px, py) (k + 1) = true) := by unfold Hid; rw [HS.out]; rfl
          clear HS
          go_wp2_with fail
          go_quiet (fail)
          go_wp2
          go_roundw
          case rel => exact ⟨k + 1, by omega, by go_num, by rw [HR.out], below_drewN hbr⟩
          case measure => simp [intOf]; omega
        | false =>
          by_cases e1 : qx = px
          · by_cases e2 : qy = py
            · subst e1 e2
              have HR : Hid (memB d.pts (qx, qy) (k + 1) = true) := by unfold Hid; rw [HS.out]; simp
              clear HS
              go_wp2_with fail
              go_quiet (fail)
              go_wp2
              go_roundw
              case rel => exact ⟨k + 1, by omega, by go_num, by rw [HR.out], below_drewN hbr⟩
              case measure => simp [intOf]; omega
            · have HR : Hid (memB d.pts (px, py) (k + 1) = false) := by unfold Hid; rw [HS.out]; simp [e2]
              clear HS
              go_wp2_with fail
              go_quiet (fail)
              go_wp2
              go_roundw
              case rel => exact ⟨k + 1, by omega, by go_num, by rw [HR.out], below_drewN hbr⟩
              case measure => simp [intOf]; omega
          · have HR : Hid (memB d.pts (px, py) (k + 1) = false) := by unfold Hid; rw [HS.out]; simp [e1]
            clear HS
            go_wp2_with fail
            go_quiet (fail)
            go_wp2
            go_roundw
            case rel => exact ⟨k + 1, by omega, by go_num, by rw [HR.out], below_drewN hbr⟩
            case measure => simp [intOf]; omega
      · have ek : k = d.pts.length := by omega
        subst ek
        have HR : Hid (memB d.pts (px, py) d.pts.length = decide ((px, py) ∈ d.pts)) := memB_all _ _
        generalize memB d.pts (px, py) d.pts.length = jj at *
        go_wp2
        go_meet
        case rel => exact ⟨by rw [HR.out], hbr⟩
  case rest =>
    as_aux_lemma =>
    obtain ⟨rfl, hb1⟩ := hcut
    have H1 := HW.out.below hb1
    have HB1 : Hid (Below W.heap.size W wc) := hb1
    have hT1 : TagN wc tag := fun k hk => Nat.lt_of_lt_of_le (HT.out k hk) hb1.size
    have y0 := (hb1.cell (p := ⟨BX, 0, none⟩) hxW).trans x0
    have y1 := (hb1.cell (p := ⟨BX, 1, none⟩) hxW).trans x1
    have c0 := H1.cells.1
    have hX1 : d.X < wc.heap.size := H1.lt
    have hx1 : BX < wc.heap.size := Nat.lt_of_lt_of_le hxW hb1.size
    have HI := nins_any wc.drew tag i d (.slice pa d.pts.length pc) (.slice na d.nums.length nc) vA vM px py (H1.below ((Below.refl _ _).drew)) hT1 hi (by omega)
    have HTG : Hid (tag d.X = i ∧ (∀ g, (Value.slice pa d.pts.length pc).ownBlock = some g → tag g = i) ∧ (∀ g, (Value.slice na d.nums.length nc).ownBlock = some g → tag g = i) ∧ (d.m < wc.heap.size ∧ tag d.m = i + 1) ∧ (∀ g, (Value.slice pa d.pts.length pc).ownBlock = some g → g < wc.heap.size) ∧ (∀ g, (Value.slice na d.nums.length nc).ownBlock = some g → g < wc.heap.size)) := ⟨H1.tX, H1.tP, H1.tN, ⟨H1.row.lt, H1.tm⟩, fun g hg => ownS_lt H1.ownP hg, fun g hg => ownS_lt H1.ownN hg⟩
    have hbw1 : Below BX w wc := HB0.out.trans (hb1.mono (by omega))
    have HBW : Hid (Below BX w wc) := hbw1
    clear HW HT H1 hb1 x0 x1 c1 hbw1 hT1
    go_upto_region 6 with fail
    generalize wc = W1 at *
    go_cut [7, 8] (fun s7 s8 wx => ∃ n tag' vA' vM' d', s7 = .int .i64 n ∧ s8 = .int .i64 (insE d.pts (px, py)) ∧ NMid W1 wx tag tag' i d d' (.slice pa d.pts.length pc) (.slice na d.nums.length nc) vA' vM' ∧ ((insE d.pts (px, py) ≠ 0 ∧ n = 0 ∧ d' = d) ∨ (insE d.pts (px, py) = 0 ∧ n = d.ever ∧ d' = ⟨d.X, d.m, d.pts ++ [(px, py)], d.nums ++ [(d.ever : Int)], d.ever + 1⟩)))
    case first =>
      as_aux_lemma =>
      go_region_with (go_at_call 12; refine HI.mono ?_; rintro e w1 ⟨n, tag', vA', vM', d', rfl, hM, hc⟩)
      all_goals go_wp2_with fail
      all_goals go_meet
      all_goals exact ⟨n, tag', vA', vM', d', rfl, rfl, ⟨hM.agree, hM.tagged, hM.blk, hM.ownP, hM.ownN, hM.row, hM.ok, hM.tA, hM.tM, ⟨hM.chg.os, hM.chg.tape, hM.chg.output, hM.chg.size, hM.chg.far⟩⟩, hc⟩
    case rest =>
      as_aux_lemma =>
      obtain ⟨n, tag1, vA1, vM1, d1, rfl, rfl, hM, hc⟩ := hcut
      have HM : Hid (NMid W1 wc tag tag1 i d d1 (.slice pa d.pts.length pc) (.slice na d.nums.length nc) vA1 vM1) := hM
      have HIE : Hid (insE d.pts (px, py) = if farB px py = true then 1 else if (px, py) ∈ d.pts then 3 else if d.pts.length = 60 then 2 else 0) := rfl
      have HCD : Hid (comesD d (px, py) = if (px, py) ∈ d.pts ∨ d.pts.length = 60 then d else ⟨d.X, d.m, d.pts ++ [(px, py)], d.nums ++ [(d.ever : Int)], d.ever + 1⟩) := rfl
      have e1 : wc.cell? ⟨d.X, 1, none⟩ = some (.slice pa d.pts.length pc) := by simp [World.cell?, hM.blk]
      have z0 := (hM.chg.cell (o := 0) hx1 (by rw [htx]; omega)).trans y0
      have z1 := (hM.chg.cell (o := 1) hx1 (by rw [htx]; omega)).trans y1
      have hX2 : d.X < wc.heap.size := Nat.lt_of_lt_of_le hX1 hM.chg.size
      have hx2 : BX < wc.heap.size := Nat.lt_of_lt_of_le hx1 hM.chg.size
      have HTX : Hid (tag d.X = i) := HTG.out.1
      -- what stays, if the point did not come
      have HSAME : Hid (insE d.pts (px, py) ≠ 0 → n = 0 ∧ NPost w wc tag tag1 i d) := fun he => by
        rcases hc with ⟨_, h2, h3⟩ | ⟨h0, _⟩
        · subst h3
          have ag : ∀ k, k < w.heap.size → tag1 k = tag k := fun k hk => hM.agree k (by have := HBW.out.size; omega)
          refine ⟨h2, ag, hM.tagged, ⟨_, _, _, _, ⟨hM.blk, hM.ownP, hM.ownN, hM.row, hM.ok, (hM.agree _ hX1).trans HTG.out.1, fun g hg => (hM.agree g (HTG.out.2.2.2.2.1 g hg)).trans (HTG.out.2.1 g hg), fun g hg => (hM.agree g (HTG.out.2.2.2.2.2 g hg)).trans (HTG.out.2.2.1 g hg), (hM.agree _ HTG.out.2.2.2.1.1).trans HTG.out.2.2.2.1.2, hM.tA, hM.tM⟩⟩, ?_⟩
          exact (Chg.of_below (by rw [hBX]; exact HBW.out)).trans (hM.chg.mono fun k _ h => (.inr h : tag k = i ∨ tag k = i + 1)) fun _ _ h => h
        · exact absurd h0 he
      by_cases hmem : (px, py) ∈ d.pts
      · have hie : insE d.pts (px, py) = 3 := by rw [HIE.out, hfar, if_neg (by simp), if_pos hmem]
        obtain ⟨rfl, hpost⟩ := HSAME.out (by rw [hie]; decide)
        rw [if_pos (.inl hmem)] at HCD
        have HPO : Hid (NPost w wc tag tag1 i d) := hpost
        rw [hie, decide_eq_true hmem]
        clear HSAME hpost HIE hie hc hM HM hmem
        go_wp2
        go_ret
        rw [HCD.out]
        exact ⟨rfl, tag1, HPO.out⟩
      · by_cases h60 : d.pts.length = 60
        · have hie : insE d.pts (px, py) = 2 := by rw [HIE.out, hfar, if_neg (by simp), if_neg hmem, if_pos h60]
          obtain ⟨rfl, hpost⟩ := HSAME.out (by rw [hie]; decide)
          rw [if_pos (.inr h60)] at HCD
          have HPO : Hid (NPost w wc tag tag1 i d) := hpost
          rw [hie, decide_eq_false hmem]
          have q60 : ((d.pts.length : Int) == 60) = true := beq_iff_eq.2 (by omega)
          clear HSAME hpost HIE hie hc hM HM hmem h60
          go_wp2
          go_ret
          rw [HCD.out]
          exact ⟨rfl, tag1, HPO.out⟩
        · have hie : insE d.pts (px, py) = 0 := by rw [HIE.out, hfar, if_neg (by simp), if_neg hmem, if_neg h60]
          rw [if_neg (by simp [hmem, h60])] at HCD
          obtain ⟨rfl, rfl⟩ : n = d.ever ∧ d1 = ⟨d.X, d.m, d.pts ++ [(px, py)], d.nums ++ [(d.ever : Int)], d.ever + 1⟩ := by
            rcases hc with ⟨h0, _⟩ | ⟨_, h2, h3⟩
            · exact absurd hie h0
            · exact ⟨h2, h3⟩
          rw [hie, decide_eq_false hmem]
          have q60 : ((d.pts.length : Int) == 60) = false := beq_eq_false_iff_ne.2 (by omega)
          clear HSAME HIE hie hc hM hmem h60
          generalize wc = W2 at *
          go_upto_region 11 with fail
          go_cut [5] (fun _ wx => ∃ g cap, wx.ownsRow 0 32 2 (.slice (some ⟨g, 0, none⟩) (d.pts.length + 1) cap) (d.pts.length + 1) (cellsP d.pts ++ [.int .i64 px, .int .i64 py]) ∧ wx.heap[d.X]? = some (.cells #[.pointer (some ⟨d.m, 0, none⟩), .slice (some ⟨g, 0, none⟩) (d.pts.length + 1) cap, .slice na d.nums.length nc, .int .i64 (d.ever : Int)] 28 (0, 0)) ∧ ((Value.slice pa d.pts.length pc).ownBlock = some g ∨ W2.heap.size ≤ g) ∧ Chg (fun k => k = d.X ∨ (Value.slice pa d.pts.length pc).ownBlock = some k) W2 wx)
          case first =>
            as_aux_lemma =>
            refine wp_region_inv (m := 11) (by kernel_rfl) (by kernel_rfl) (dsts := [some 60, some 61, some 62, some 63, some 64, some 65, some 66, some 67, some 68, some 69, none]) rfl (by kernel_rfl) (l := []) rfl
              (AppX W2 d.X BX 32 2 (.slice pa d.pts.length pc) d.pts.length (cellsP d.pts) [.int .i64 px, .int .i64 py] (valsNP d.X (.slice pa d.pts.length pc) px py) 6 7 10 (fun u => #[.pointer (some ⟨d.m, 0, none⟩), u, .slice na d.nums.length nc, .int .i64 (d.ever : Int)])) (AppX.start HM.out.ownP HM.out.blk) ?_ ?_
            · refine flS (flS (flS (flS (flS (flS (flS (flS (flS (flS (flS fl0 ?_) ?_) ?_) ?_) ?_) ?_) ?_) ?_) ?_) ?_) ?_
              all_goals intro Ls σ wx hS hp hdn hun
              · exact (gives_move (x := .tmp 0) rfl rfl (hS.stepV (i := 0) rfl (by decide) (by decide) (by decide))).toS
              · exact (gives_move (x := .tmp 0) rfl rfl (hS.stepV (i := 1) rfl (by decide) (by decide) (by decide))).toS
              · exact (gives_nil (x := .tmp 61) rfl (show σ 1 = _ from hS.val 1 _ rfl (hp 1 rfl)) (hS.stepV (i := 2) rfl (by decide) (by decide) (by decide))).toS
              · exact (gives_field (T := 28) (x := .tmp 62) (f := 1) rfl (show σ 2 = _ from hS.val 2 _ rfl (hp 2 rfl)) (run_field_N1 _ _) (hS.stepV (i := 3) rfl (by decide) (by decide) (by decide))).toS
              · have n10 : Ls 10 = false := by
                  cases hl : Ls 10 with
                  | false => rfl
                  | true => have := (hdn 7 4 (hdn 10 7 hl rfl) rfl); rw [hun] at this; cases this
                have c : wx.cell? ⟨d.X, 1, none⟩ = some (.slice pa d.pts.length pc) := by have fX := hS.fX; rw [n10] at fX; simp [World.cell?, fX]
                exact (gives_load (T := 22) (x := .tmp 63) rfl (show σ 3 = _ from hS.val 3 _ rfl (hp 3 rfl)) (run_load_pts _ _ _ _ c) (hS.stepV (i := 4) rfl (by decide) (by decide) (by decide))).toS
              · have n7 : Ls 7 = false := by
                  cases hl : Ls 7 with
                  | false => rfl
                  | true => have := (hdn 6 5 (hdn 7 6 hl rfl) rfl); rw [hun] at this; cases this
                exact (gives_load (T := 32) (x := .tmp 3) rfl rfl (run_load_pt _ _ _ px py ((hS.box n7 0).trans z0) ((hS.box n7 1).trans z1)) (hS.stepV (i := 5) rfl (by decide) (by decide) (by decide))).toS
              · have n7 : Ls 7 = false := by
                  cases hl : Ls 7 with
                  | false => rfl
                  | true => have := (hdn 7 6 hl rfl); rw [hun] at this; cases this
                exact (gives_build (T := 22) (n := 1) (x := .tmp 65) rfl (show σ 5 = _ from hS.val 5 _ rfl (hp 5 rfl)) (run_build_pt _ _ _) (hS.stepB rfl hun n7 (by decide) (by decide) hx2)).toS
              · have n10 : Ls 10 = false := by
                  cases hl : Ls 10 with
                  | false => rfl
                  | true => have := (hdn 10 7 hl rfl); rw [hun] at this; cases this
                have fA := hS.fA
                rw [hp 6 rfl, hun] at fA
                obtain ⟨g, cap, w', hrun, fA', hk, hcc⟩ := fA.append (P := Tryz.prog) (t := 22) (ty := (opAt _ 7).type) Tryz.underlying22 hiP hzP hsP hbP rfl (by decide) rfl (by intro u hu; simp at hu; rcases hu with rfl | rfl <;> rfl) (by omega) (by decide) hS.chg.size
                exact (gives_append (t := 22) (s := .tmp 64) (x := .tmp 66) rfl (show σ 4 = _ from hS.val 4 _ rfl (hp 4 rfl)) (show σ 6 = σ 6 from rfl) hrun (hS.stepA rfl (hp 6 rfl) n10 (by decide) (by decide) (by decide) fA' hk hcc)).toS
              · exact (gives_nil (x := .tmp 60) rfl (show σ 0 = _ from hS.val 0 _ rfl (hp 0 rfl)) (hS.stepV (i := 8) rfl (by decide) (by decide) (by decide))).toS
              · exact (gives_field (T := 28) (x := .tmp 68) (f := 1) rfl (show σ 8 = _ from hS.val 8 _ rfl (hp 8 rfl)) (run_field_N1 _ _) (hS.stepV (i := 9) rfl (by decide) (by decide) (by decide))).toS
              · have h7 : Ls 7 = true := hp 7 rfl
                obtain ⟨g, cap, e7, o7, _⟩ := hS.fA.1 h7
                have fX := hS.fX
                rw [hun] at fX
                have c : wx.cell? ⟨d.X, 1, none⟩ = some (.slice pa d.pts.length pc) := by simp [World.cell?, fX]
                have cf : wx.frozen? ⟨d.X, 1, none⟩ = false := by simp [World.frozen?, fX]
                have hst := hS.stepS (u := undef) rfl h7 hun (by decide) (by decide) (by decide) (q := 1) rfl
                rw [e7] at hst
                exact gives_store (T := 22) (x := .tmp 69) (y := .tmp 67) rfl (show σ 9 = _ from hS.val 9 _ rfl (hp 9 rfl)) (show σ 7 = _ from e7) (run_store_pts _ _ _ _ _ _ _ c cf) hst
            · intro Ls σ wx hS hall
              obtain ⟨g, cap, e7, o7, a7⟩ := hS.fA.1 (hall 7 (by omega))
              have fX := hS.fX
              rw [hall 10 (by omega)] at fX
              simp only [if_true] at fX
              rw [e7] at fX o7
              have HC : Hid (Chg (fun k => k = d.X ∨ (Value.slice pa d.pts.length pc).ownBlock = some k) W2 wx) := hS.chg
              clear hS
              refine ⟨?_⟩
              simp only [lay, Act.put, List.drop_succ_cons, List.drop_zero, List.setIfInBounds_toArray, List.set_cons_succ, List.set_cons_zero]
              go_wp2_with fail
              go_meet
              exact ⟨g, cap, o7, fX, a7, HC.out⟩
          case rest =>
            as_aux_lemma =>
            obtain ⟨gP, cP, oP, hblk, aP, hcP⟩ := hcut
            have HCP : Hid (Chg (fun k => k = d.X ∨ (Value.slice pa d.pts.length pc).ownBlock = some k) W2 wc) := hcP
            have hNK : wc.ownsRow 0 3 1 (.slice na d.nums.length nc) d.nums.length (d.nums.map (.int .i64)) := ownS_keep HM.out.ownN fun g hg => hcP.far g (ownS_lt HM.out.ownN hg) fun h => by
              obtain ⟨cN, hcN⟩ := ownS_typ HM.out.ownN hg
              rcases h with rfl | h
              · exact typ_ne hcN HM.out.blk (by decide) rfl
              · obtain ⟨cQ, hcQ⟩ := ownS_typ HM.out.ownP h
                exact typ_ne hcN hcQ (by decide) rfl
            have HP2 : Hid (wc.ownsRow 0 32 2 (.slice (some ⟨gP, 0, none⟩) (d.pts.length + 1) cP) (d.pts.length + 1) (cellsP d.pts ++ [.int .i64 px, .int .i64 py]) ∧ ((Value.slice pa d.pts.length pc).ownBlock = some gP ∨ W2.heap.size ≤ gP)) := ⟨oP, aP⟩
            have HBK : Hid (wc.heap[d.X]? = some (.cells #[.pointer (some ⟨d.m, 0, none⟩), .slice (some ⟨gP, 0, none⟩) (d.pts.length + 1) cP, .slice na d.nums.length nc, .int .i64 (d.ever : Int)] 28 (0, 0))) := hblk
            have hX3 : d.X < wc.heap.size := Nat.lt_of_lt_of_le hX2 hcP.size
            clear e1 z0 z1 oP aP hcP hblk
            generalize wc = W3 at *
            go_upto_region 12 with fail
            go_cut [5] (fun _ wx => ∃ g cap, wx.ownsRow 0 3 1 (.slice (some ⟨g, 0, none⟩) (d.nums.length + 1) cap) (d.nums.length + 1) (d.nums.map (.int .i64) ++ [.int .i64 (d.ever : Int)]) ∧ wx.heap[d.X]? = some (.cells #[.pointer (some ⟨d.m, 0, none⟩), .slice (some ⟨gP, 0, none⟩) (d.pts.length + 1) cP, .slice (some ⟨g, 0, none⟩) (d.nums.length + 1) cap, .int .i64 (d.ever : Int)] 28 (0, 0)) ∧ ((Value.slice na d.nums.length nc).ownBlock = some g ∨ W3.heap.size ≤ g) ∧ Chg (fun k => k = d.X ∨ (Value.slice na d.nums.length nc).ownBlock = some k) W3 wx)
            case first =>
              as_aux_lemma =>
              refine wp_region_inv (m := 14) (by kernel_rfl) (by kernel_rfl) (dsts := [some 70, some 71, some 72, some 73, some 74, some 75, some 76, some 77, some 78, some 79, some 80, some 81, some 82, none]) rfl (by kernel_rfl) (l := []) rfl
                (AppX W3 d.X d.X 3 1 (.slice na d.nums.length nc) d.nums.length (d.nums.map (.int .i64)) [.int .i64 (d.ever : Int)] (valsNN d.X (.slice na d.nums.length nc) (d.ever : Int)) 9 10 13 (fun u => #[.pointer (some ⟨d.m, 0, none⟩), .slice (some ⟨gP, 0, none⟩) (d.pts.length + 1) cP, u, .int .i64 (d.ever : Int)])) (AppX.start hNK HBK.out) ?_ ?_
              · refine flS (flS (flS (flS (flS (flS (flS (flS (flS (flS (flS (flS (flS (flS fl0 ?_) ?_) ?_) ?_) ?_) ?_) ?_) ?_) ?_) ?_) ?_) ?_) ?_) ?_
                all_goals intro Ls σ wx hS hp hdn hun
                · exact (gives_move (x := .tmp 0) rfl rfl (hS.stepV (i := 0) rfl (by decide) (by decide) (by decide))).toS
                · exact (gives_move (x := .tmp 0) rfl rfl (hS.stepV (i := 1) rfl (by decide) (by decide) (by decide))).toS
                · exact (gives_nil (x := .tmp 71) rfl (show σ 1 = _ from hS.val 1 _ rfl (hp 1 rfl)) (hS.stepV (i := 2) rfl (by decide) (by decide) (by decide))).toS
                · exact (gives_field (T := 28) (x := .tmp 72) (f := 2) rfl (show σ 2 = _ from hS.val 2 _ rfl (hp 2 rfl)) (run_field_N2 _ _) (hS.stepV (i := 3) rfl (by decide) (by decide) (by decide))).toS
                · have n13 : Ls 13 = false := by
                    cases hl : Ls 13 with
                    | false => rfl
                    | true => have := (hdn 10 4 (hdn 13 10 hl rfl) rfl); rw [hun] at this; cases this
                  have c : wx.cell? ⟨d.X, 2, none⟩ = some (.slice na d.nums.length nc) := by have fX := hS.fX; rw [n13] at fX; simp [World.cell?, fX]
                  exact (gives_load (T := 26) (x := .tmp 73) rfl (show σ 3 = _ from hS.val 3 _ rfl (hp 3 rfl)) (run_load_nums _ _ _ _ c) (hS.stepV (i := 4) rfl (by decide) (by decide) (by decide))).toS
                · exact (gives_move (x := .tmp 0) rfl rfl (hS.stepV (i := 5) rfl (by decide) (by decide) (by decide))).toS
                · exact (gives_nil (x := .tmp 75) rfl (show σ 5 = _ from hS.val 5 _ rfl (hp 5 rfl)) (hS.stepV (i := 6) rfl (by decide) (by decide) (by decide))).toS
                · exact (gives_field (T := 28) (x := .tmp 76) (f := 3) rfl (show σ 6 = _ from hS.val 6 _ rfl (hp 6 rfl)) (run_field_N3 _ _) (hS.stepV (i := 7) rfl (by decide) (by decide) (by decide))).toS
                · have c : wx.cell? ⟨d.X, 3, none⟩ = some (.int .i64 (d.ever : Int)) := by have fX := hS.fX; simp [World.cell?, fX]
                  exact (gives_load (T := 3) (x := .tmp 77) rfl (show σ 7 = _ from hS.val 7 _ rfl (hp 7 rfl)) (run_load_int _ _ _ _ c) (hS.stepV (i := 8) rfl (by decide) (by decide) (by decide))).toS
                · have n10 : Ls 10 = false := by
                    cases hl : Ls 10 with
                    | false => rfl
                    | true => have := (hdn 10 9 hl rfl); rw [hun] at this; cases this
                  exact (gives_build (T := 26) (n := 1) (x := .tmp 78) rfl (show σ 8 = _ from hS.val 8 _ rfl (hp 8 rfl)) (run_build_int _ _) (hS.stepB rfl hun n10 (by decide) (by decide) hX3)).toS
                · have n13 : Ls 13 = false := by
                    cases hl : Ls 13 with
                    | false => rfl
                    | true => have := (hdn 13 10 hl rfl); rw [hun] at this; cases this
                  have fA := hS.fA
                  rw [hp 9 rfl, hun] at fA
                  obtain ⟨g, cap, w', hrun, fA', hk, hcc⟩ := fA.append (P := Tryz.prog) (t := 26) (ty := (opAt _ 10).type) Tryz.underlying26 hi0 hz0 hs0 hb0' rfl (by decide) rfl (by intro u hu; simp at hu; rw [hu]; rfl) (by omega) (by decide) hS.chg.size
                  exact (gives_append (t := 26) (s := .tmp 74) (x := .tmp 79) rfl (show σ 4 = _ from hS.val 4 _ rfl (hp 4 rfl)) (show σ 9 = σ 9 from rfl) hrun (hS.stepA rfl (hp 9 rfl) n13 (by decide) (by decide) (by decide) fA' hk hcc)).toS
                · exact (gives_nil (x := .tmp 70) rfl (show σ 0 = _ from hS.val 0 _ rfl (hp 0 rfl)) (hS.stepV (i := 11) rfl (by decide) (by decide) (by decide))).toS
                · exact (gives_field (T := 28) (x := .tmp 81) (f := 2) rfl (show σ 11 = _ from hS.val 11 _ rfl (hp 11 rfl)) (run_field_N2 _ _) (hS.stepV (i := 12) rfl (by decide) (by decide) (by decide))).toS
                · have h10 : Ls 10 = true := hp 10 rfl
                  obtain ⟨g, cap, e10, o10, _⟩ := hS.fA.1 h10
                  have fX := hS.fX
                  rw [hun] at fX
                  have c : wx.cell? ⟨d.X, 2, none⟩ = some (.slice na d.nums.length nc) := by simp [World.cell?, fX]
                  have cf : wx.frozen? ⟨d.X, 2, none⟩ = false := by simp [World.frozen?, fX]
                  have hst := hS.stepS (u := undef) rfl h10 hun (by decide) (by decide) (by decide) (q := 2) rfl
                  rw [e10] at hst
                  exact gives_store (T := 26) (x := .tmp 82) (y := .tmp 80) rfl (show σ 12 = _ from hS.val 12 _ rfl (hp 12 rfl)) (show σ 10 = _ from e10) (run_store_nums _ _ _ _ _ _ _ c cf) hst
              · intro Ls σ wx hS hall
                obtain ⟨g, cap, e10, o10, a10⟩ := hS.fA.1 (hall 10 (by omega))
                have fX := hS.fX
                rw [hall 13 (by omega)] at fX
                simp only [if_true] at fX
                rw [e10] at fX o10
                have HC : Hid (Chg (fun k => k = d.X ∨ (Value.slice na d.nums.length nc).ownBlock = some k) W3 wx) := hS.chg
                clear hS
                refine ⟨?_⟩
                simp only [lay, Act.put, List.drop_succ_cons, List.drop_zero, List.setIfInBounds_toArray, List.set_cons_succ, List.set_cons_zero]
                go_wp2_with fail
                go_meet
                exact ⟨g, cap, o10, fX, a10, HC.out⟩
            case rest =>
              as_aux_lemma =>
              obtain ⟨gN, cN, oN, hblk, aN, hcN⟩ := hcut
              have c3 : wc.cell? ⟨d.X, 3, none⟩ = some (.int .i64 (d.ever : Int)) := by simp [World.cell?, hblk]
              have f3 : wc.frozen? ⟨d.X, 3, none⟩ = false := by simp [World.frozen?, hblk]
              have st := heap_setCell_same wc d.X 3 _ _ (.int .i64 ((d.ever : Int) + 1)) hblk
              have HFIN : Hid (∃ tag', NPost w (wc.setCell ⟨d.X, 3, none⟩ (.int .i64 ((d.ever : Int) + 1))) tag tag' i (comesD d (px, py))) := by
                have hcS : Chg (fun k => k = d.X) wc (wc.setCell ⟨d.X, 3, none⟩ (.int .i64 ((d.ever : Int) + 1))) := ⟨rfl, rfl, rfl, by simp [World.setCell], fun k _ hk => Below.heap_setCell _ _ _ _ hk⟩
                have hcA : Chg (fun k => k = d.X ∨ (Value.slice pa d.pts.length pc).ownBlock = some k ∨ (Value.slice na d.nums.length nc).ownBlock = some k) W2 (wc.setCell ⟨d.X, 3, none⟩ (.int .i64 ((d.ever : Int) + 1))) := by
                  refine ((HCP.out.mono fun k _ h => ?_).trans hcN fun k _ h => ?_).trans hcS fun k _ h => .inl h
                  · rcases h with h | h
                    · exact .inl h
                    · exact .inr (.inl h)
                  · rcases h with h | h
                    · exact .inl h
                    · exact .inr (.inr h)
                have oP' : wc.ownsRow 0 32 2 (.slice (some ⟨gP, 0, none⟩) (d.pts.length + 1) cP) (d.pts.length + 1) (cellsP d.pts ++ [.int .i64 px, .int .i64 py]) := ownS_keep HP2.out.1 fun g hg => hcN.far g (ownS_lt HP2.out.1 hg) fun h => by
                  obtain ⟨cQ, hcQ⟩ := ownS_typ HP2.out.1 hg
                  rcases h with rfl | h
                  · exact typ_ne hcQ HBK.out (by decide) rfl
                  · obtain ⟨cR, hcR⟩ := ownS_typ hNK h
                    exact typ_ne hcQ hcR (by decide) rfl
                have hag : ∀ g, g < W1.heap.size → tag1 g = tag g := HM.out.agree
                obtain ⟨tag3, g1, g2, g3, g4⟩ := net_put (W3 := wc.setCell ⟨d.X, 3, none⟩ (.int .i64 ((d.ever : Int) + 1))) (vP' := .slice (some ⟨gP, 0, none⟩) (d.pts.length + 1) cP) (vN' := .slice (some ⟨gN, 0, none⟩) (d.nums.length + 1) cN) HM.out
                  ((hag _ hX1).trans HTG.out.1) (fun g hg => (hag g (HTG.out.2.2.2.2.1 g hg)).trans (HTG.out.2.1 g hg)) (fun g hg => (hag g (HTG.out.2.2.2.2.2 g hg)).trans (HTG.out.2.2.1 g hg)) ((hag _ HTG.out.2.2.2.1.1).trans HTG.out.2.2.2.1.2) rfl rfl
                  (by rw [st]; rfl)
                  (by
                    show World.ownsRow _ 0 _ 2 _ (d.pts ++ [(px, py)]).length (cellsP (d.pts ++ [(px, py)]))
                    rw [List.length_append, cellsP_append]
                    exact ownS_keep oP' fun g hg => by
                      obtain ⟨cQ, hcQ⟩ := ownS_typ oP' hg
                      exact Below.heap_setCell _ _ _ _ (typ_ne hcQ hblk (by decide)))
                  (by
                    show World.ownsRow _ 0 _ 1 _ (d.nums ++ [(d.ever : Int)]).length ((d.nums ++ [(d.ever : Int)]).map (.int .i64))
                    rw [List.length_append, List.map_append]
                    exact ownS_keep oN fun g hg => by
                      obtain ⟨cQ, hcQ⟩ := ownS_typ oN hg
                      exact Below.heap_setCell _ _ _ _ (typ_ne hcQ hblk (by decide)))
                  (fun g hg => by cases hg; exact HP2.out.2) (fun g hg => by
                    cases hg
                    rcases aN with a | a
                    · exact .inl a
                    · exact .inr (Nat.le_trans HCP.out.size a)) hcA
                have hs1 : W1.heap.size ≤ W2.heap.size := HM.out.chg.size
                have hsw : w.heap.size ≤ W1.heap.size := by have := HBW.out.size; omega
                refine ⟨tag3, ?_, g2, ?_, ?_⟩
                · intro k hk
                  exact (g1 k (by omega)).trans (HM.out.agree k (by omega))
                · rw [HCD.out]; exact g3
                · refine ((Chg.of_below (by rw [hBX]; exact HBW.out)).trans (HM.out.chg.mono fun k _ h => (.inr h : tag k = i ∨ tag k = i + 1)) fun _ _ h => h).trans g4 fun k hk h => ?_
                  rw [HM.out.agree k (by omega)] at h
                  exact .inl h
              have w1 : IntKind.i64.wrap ((d.ever : Int) + 1) = (d.ever : Int) + 1 := wrap_id (by omega) (by omega)
              have w2' : IntKind.i64.wrap ((d.ever : Int) + 1 - 1) = (d.ever : Int) := by rw [wrap_id (by omega) (by omega)]; omega
              clear st hcN oN aN hblk
              go_wp2
              go_ret
              exact ⟨by simp, HFIN.out⟩
end Go.Proofs.YtgpapegpdfonpaaGreat
