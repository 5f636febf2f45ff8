/-
  hull.chain: what is kept of numbers in order.
-/
import Derived.Test.YtgpapegpdfonpaaGreatDoorWalksF
import Derived.Test.YtgpapegpdfonpaaGreatDoorWalksD
import Derived.Deep.AppendLies
import Derived.Deep.QuietTactic
import Derived.BigQuiet
namespace Go.Proofs.YtgpapegpdfonpaaGreatDoor
set_option linter.unusedVariables false
set_option linter.unusedSimpArgs false
open Go.RowKit

def popN (l : List Pt) (n : Nat) : List Nat → List Nat
  | b :: a :: t => if sd (ptAt l a) (ptAt l b) (ptAt l n) ≤ 0 then popN l n (a :: t) else b :: a :: t
  | s => s
def chainN (l : List Pt) (is : List Nat) : List Nat := is.foldl (fun st n => n :: popN l n st) []

def toV (i : Nat) : Value := .int .i64 (i : Int)

theorem popN_map (l : List Pt) (n : Nat) : ∀ st, (popN l n st).map (ptAt l) = popTo (ptAt l n) (st.map (ptAt l)) := by
  intro st
  induction st with
  | nil => rfl
  | cons b t ih =>
    cases t with
    | nil => rfl
    | cons a t =>
      simp only [popN, List.map_cons, popTo]
      split
      · exact ih
      · rfl
theorem chainN_map (l : List Pt) (is : List Nat) : (chainN l is).map (ptAt l) = chainR (is.map (ptAt l)) := by
  unfold chainN chainR
  have key : ∀ (is st : List Nat), (is.foldl (fun st n => n :: popN l n st) st).map (ptAt l) = (is.map (ptAt l)).foldl (fun st n => n :: popTo n st) (st.map (ptAt l)) := by
    intro is
    induction is with
    | nil => intro st; rfl
    | cons i is ih => intro st; simp only [List.foldl_cons, List.map_cons, ih, popN_map]
  exact key is []
theorem popN_len (l : List Pt) (n : Nat) : ∀ st, (popN l n st).length ≤ st.length := by
  intro st
  induction st with
  | nil => exact Nat.le_refl _
  | cons b t ih =>
    cases t with
    | nil => exact Nat.le_refl _
    | cons a t =>
      simp only [popN]
      split
      · exact Nat.le_trans ih (by simp)
      · exact Nat.le_refl _
theorem chainN_snoc (l : List Pt) (is : List Nat) (n : Nat) : chainN l (is ++ [n]) = n :: popN l n (chainN l is) := by simp [chainN]
theorem chainN_len (l : List Pt) (is : List Nat) : (chainN l is).length ≤ is.length := by
  have key : ∀ (is st : List Nat), (is.foldl (fun st n => n :: popN l n st) st).length ≤ st.length + is.length := by
    intro is
    induction is with
    | nil => intro st; exact Nat.le_refl _
    | cons i is ih =>
      intro st
      refine Nat.le_trans (ih _) ?_
      have := popN_len l i st
      simp; omega
  have := key is []
  unfold chainN
  simpa using this
theorem popN_sub (l : List Pt) (n : Nat) : ∀ st, ∀ p ∈ popN l n st, p ∈ st := by
  intro st
  induction st with
  | nil => intro p hp; exact hp
  | cons b t ih =>
    cases t with
    | nil => intro p hp; exact hp
    | cons a t =>
      intro p hp
      simp only [popN] at hp
      split at hp
      · exact List.mem_cons_of_mem _ (ih p hp)
      · exact hp
theorem chainN_sub (l : List Pt) (is : List Nat) : ∀ p ∈ chainN l is, p ∈ is := by
  have key : ∀ (is st S : List Nat), (∀ p ∈ st, p ∈ S) → (∀ p ∈ is, p ∈ S) → ∀ p ∈ is.foldl (fun st n => n :: popN l n st) st, p ∈ S := by
    intro is
    induction is with
    | nil => intro st S h _; exact h
    | cons i is ih =>
      intro st S h1 h2
      refine ih _ S ?_ (fun p hp => h2 p (List.mem_cons_of_mem _ hp))
      intro p hp
      rcases List.mem_cons.1 hp with e | hp
      · subst e; exact h2 _ (by simp)
      · exact h1 p (popN_sub l i st p hp)
  exact key is [] is (by simp) (fun p hp => hp)

theorem own_cell {w : World} {base g n cap : Nat} {e : TypeId} {xs : List Value} (h : w.ownsRow base e 1 (.slice (some ⟨g, 0, none⟩) n cap) n xs) (j : Nat) (u : Value) (hj : xs[j]? = some u) : w.cell? ⟨g, j, none⟩ = some u := by
  obtain ⟨hl, hn⟩ := h
  rcases hn with ⟨hn, _⟩ | ⟨g', cap', cur, hv, hg, hh, h1, h2, h3, h4⟩
  · cases hn
  · cases hv
    have : cur[j]? = some u := by
      rw [← h4, List.getElem?_take] at hj
      split at hj
      · simpa using hj
      · cases hj
    simp [World.cell?, hh, this]
theorem own_lt {w : World} {base g n cap : Nat} {e : TypeId} {xs : List Value} (h : w.ownsRow base e 1 (.slice (some ⟨g, 0, none⟩) n cap) n xs) : g < w.heap.size ∧ base ≤ g ∧ n ≤ cap := by
  obtain ⟨hl, hn⟩ := h
  rcases hn with ⟨hn, _⟩ | ⟨g', cap', cur, hv, hg, hh, h1, h2, h3, h4⟩
  · cases hn
  · cases hv
    exact ⟨(Array.getElem?_eq_some_iff.1 hh).1, hg, h1⟩
theorem own_shape {w : World} {base n : Nat} {e : TypeId} {xs : List Value} {v : Value} (h : w.ownsRow base e 1 v n xs) : (v = .slice none 0 0 ∧ n = 0) ∨ ∃ g cap, v = .slice (some ⟨g, 0, none⟩) n cap := by
  obtain ⟨hl, hn⟩ := h
  rcases hn with ⟨hn, h0⟩ | ⟨g', cap', cur, hv, hg, hh, h1, h2, h3, h4⟩
  · exact .inl ⟨hn, h0⟩
  · exact .inr ⟨g', cap', hv⟩
theorem own_below {w w' : World} {base n : Nat} {e : TypeId} {xs : List Value} {v : Value} (h : w.ownsRow base e 1 v n xs) (hb : Below w.heap.size w w') : w'.ownsRow base e 1 v n xs := by
  obtain ⟨hl, hn⟩ := h
  refine ⟨hl, ?_⟩
  rcases hn with hn | ⟨g', cap', cur, hv, hg, hh, r⟩
  · exact .inl hn
  · refine .inr ⟨g', cap', cur, hv, hg, ?_, r⟩
    rw [hb.block g' (Array.getElem?_eq_some_iff.1 hh).1]; exact hh

theorem own_drewN {w : World} {base n m : Nat} {e : TypeId} {size : Nat} {xs : List Value} {v : Value} (h : w.ownsRow base e size v n xs) : (w.drewN m).ownsRow base e size v n xs := h

theorem below_drewN {N m : Nat} {a w : World} (h : Below N a w) : Below N a (w.drewN m) := ⟨h.os, h.tape, h.output, h.size, h.block⟩

/-- behind an append -/
theorem chain_rel {toB : Nat} {W wq w3 : World} {e : TypeId} {v v' : Value} {n m : Nat} {xs ys : List Value} {o : Obj} (hown : wq.ownsRow toB e 1 v n xs) (hnx : Below toB W wq)
    (hown3 : w3.ownsRow toB e 1 v' m ys) (hgrow : (wq.alloc o).grownBy w3 v.ownBlock) (hB : toB ≤ wq.heap.size) : w3.ownsRow toB e 1 v' m ys ∧ Below toB W w3 := by
  refine ⟨hown3, (hnx.alloc hB o).grown hgrow (by simp; omega) fun k hk => ?_⟩
  rcases own_shape hown with ⟨rfl, _⟩ | ⟨g, cap, rfl⟩
  · cases hk
  · cases hk
    exact (own_lt hown).2.1

theorem own_base {w : World} {base n : Nat} {e : TypeId} {xs : List Value} {v : Value} (h : w.ownsRow (base + 1) e 1 v n xs) : w.ownsRow base e 1 v n xs := by
  obtain ⟨hl, hn⟩ := h
  refine ⟨hl, ?_⟩
  rcases hn with hn | ⟨g', cap', cur, hv, hg, r⟩
  · exact .inl hn
  · exact .inr ⟨g', cap', cur, hv, by omega, r⟩

/-- how long a slice is -/
def lenV : Value → Nat
  | .slice _ n _ => n
  | _ => 0

/-- what the pieces of a chain's walk lie in -/
structure AskAt (w : World) (B b off cap : Nat) (l : List Pt) : Prop where
  hB : B < w.heap.size
  hb : b < w.heap.size
  cell : w.cell? ⟨B, 0, none⟩ = some (.slice (some ⟨b, off, none⟩) l.length cap)
  pts : PtsAt w b off l
theorem AskAt.below {w w' : World} {N B b off cap : Nat} {l : List Pt} (A : AskAt w B b off cap l) (h : Below N w w') (hN : w.heap.size ≤ N) : AskAt w' B b off cap l :=
  ⟨Nat.lt_of_lt_of_le A.hB h.size, Nat.lt_of_lt_of_le A.hb h.size, (h.cell (p := ⟨B, 0, none⟩) (Nat.lt_of_lt_of_le A.hB hN)).trans A.cell, A.pts.below h (Nat.lt_of_lt_of_le A.hb hN)⟩

theorem AskAt.drew {w : World} {B b off cap : Nat} {l : List Pt} (A : AskAt w B b off cap l) : AskAt w.drew B b off cap l := ⟨A.hB, A.hb, A.cell, A.pts⟩
theorem sg_le {x : Int} (h : x ≤ 0) : sg x ≤ 0 := by unfold sg; rw [if_neg (by omega)]; split <;> omega
theorem sg_gt {x : Int} (h : 0 < x) : 0 < sg x := by unfold sg; rw [if_pos h]; omega

abbrev askV (B : Nat) : Value := .agg #[.func (.func 34) #[] #[.pointer (some ⟨B, 0, none⟩)], .func (.func 36) #[] #[.pointer (some ⟨B, 0, none⟩)]]

set_option maxRecDepth 100000 in
set_option maxHeartbeats 2000000 in
theorem chain_any (B b off cap g ocap : Nat) (l : List Pt) (is : List Nat) (w : World) (hl : l.length ≤ 60) (hi : ∀ i ∈ is, i < l.length) (hlen : is.length ≤ 60) (A : AskAt w B b off cap l) (hn : AllNear l)
    (hg : g < w.heap.size) (his : NatsAt w g 0 is) :
    Calls Tryz.prog 121 #[.slice (some ⟨g, 0, none⟩) is.length ocap, askV B] w fun e w' =>
      ∃ v, e = .returned v ∧ w'.ownsRow w.heap.size 3 1 v (chainN l is).length ((chainN l is).reverse.map toV) ∧ Below w.heap.size w w' := by
  obtain ⟨i0, hi0, hz0, hz1, hz2⟩ := info_parts info3
  go_enter Tryz.func121, Tryz.ntmps121
  go_wp2
  go_loopw [5, 10] (fun v i wr => ∃ k : Nat, k ≤ is.length ∧ i = .int .i64 k ∧ wr.ownsRow (w.heap.size + 1) 3 1 v (chainN l (is.take k)).length ((chainN l (is.take k)).reverse.map toV) ∧
      Below (w.heap.size + 1) (w.alloc (.cells #[.func (.func 34) #[] #[.pointer (some ⟨B, 0, none⟩)], .func (.func 36) #[] #[.pointer (some ⟨B, 0, none⟩)]] 60)) wr)
    (fun _ i _ => is.length - (intOf i).toNat)
  case atStart => exact ⟨0, Nat.zero_le _, rfl, World.ownsRow_nil _ _ _ _, Below.refl _ _⟩
  case round =>
    obtain ⟨k, hk, rfl, hown, hnx⟩ := hrel
    by_cases hlt : k < is.length
    · have hcx : wr.cell? ⟨g, k, none⟩ = some (.int .i64 (is.getD k 0 : Nat)) := by
        have h1 := his k hlt
        rw [Nat.zero_add] at h1
        rw [hnx.cell (p := ⟨g, k, none⟩) (by simp; omega), World.cell?_alloc_past _ _ _ hg]
        exact h1
      go_wp2
      have hnn : is[k] < l.length := hi _ (List.getElem_mem hlt)
      have htk : chainN l (is.take (k + 1)) = is[k] :: popN l is[k] (chainN l (is.take k)) := by rw [List.take_succ_eq_append_getElem hlt, chainN_snoc]
      have hst0 : ∀ p ∈ chainN l (is.take k), p < l.length := fun p hp => hi p (List.mem_of_mem_take (chainN_sub l _ p hp))
      have hsl : (chainN l (is.take k)).length ≤ 60 := Nat.le_trans (chainN_len l _) (by simp; omega)
      have HTK : Hid (chainN l (is.take (k + 1)) = is[k] :: popN l is[k] (chainN l (is.take k))) := htk
      clear htk hcx
      generalize is[k] = nn at *
      generalize chainN l (is.take k) = st0 at *
      go_loopw [5] (fun v w2 => ∃ st, popN l nn st = popN l nn st0 ∧ w2.ownsRow (w.heap.size + 1) 3 1 v st.length (st.reverse.map toV) ∧
          Below (w.heap.size + 1) (w.alloc (.cells #[.func (.func 34) #[] #[.pointer (some ⟨B, 0, none⟩)], .func (.func 36) #[] #[.pointer (some ⟨B, 0, none⟩)]] 60)) w2 ∧
          (∀ p ∈ st, p < l.length) ∧ st.length ≤ 60) (fun v _ => lenV v)
      case atStart => exact ⟨st0, rfl, hown, hnx, hst0, hsl⟩
      case round =>
        clear hown hnx hst0 hsl
        obtain ⟨st, hpop, hown, hnx, hst, hsl⟩ := hrel
        have HP : Hid (popN l nn st = popN l nn st0) := hpop
        clear hpop
        match st, hown, hst, hsl, HP with
        | b' :: a' :: t, hown, hst, hsl, HP =>
          have ha' : a' < l.length := hst a' (by simp)
          have hb' : b' < l.length := hst b' (by simp)
          rcases own_shape hown with ⟨_, h0⟩ | ⟨gg, cap', rfl⟩
          · simp at h0
          obtain ⟨hgg, hgb, hcl⟩ := own_lt hown
          have e1 : (List.map toV (b' :: a' :: t).reverse)[t.length]? = some (toV a') := by simp [toV]
          have e2 : (List.map toV (b' :: a' :: t).reverse)[t.length + 1]? = some (toV b') := by simp [toV]
          have q1 := own_cell hown _ _ e1
          have q2 := own_cell hown _ _ e2
          clear e1 e2
          have q3 : wr.cell? ⟨w.heap.size, 0, none⟩ = some (.func (.func 34) #[] #[.pointer (some ⟨B, 0, none⟩)]) := by
            rw [hnx.cell (p := ⟨w.heap.size, 0, none⟩) (by simp), World.cell?_alloc_at _ _ _ _ rfl]; rfl
          have A2 : AskAt wr.drew B b off cap l := (A.below ((below1 _ _).trans (hnx.mono (by omega)) : Below w.heap.size w wr) (Nat.le_refl _)).drew
          have hq4 : w.heap.size < wr.heap.size := by have := hnx.size; simp at this; omega
          simp only [List.length_cons] at hown hsl hcl
          unfold toV at q1 q2
          generalize hm : t.length = m at *
          have m0 : (0 : Int) ≤ (m : Int) := by omega
          have m1 : decide ((2 : Int) ≤ (m : Int) + 1 + 1) = true := decide_eq_true (by omega)
          have m2 : IntKind.i64.wrap ((m : Int) + 1 + 1 - 2) = (m : Int) := by rw [wrap_id (by omega) (by omega)]; omega
          have m3 : IntKind.i64.wrap ((m : Int) + 1 + 1 - 1) = (m : Int) + 1 := by rw [wrap_id (by omega) (by omega)]; omega
          have m3' : IntKind.i64.wrap ((m : Int) + 1) = (m : Int) + 1 := wrap_id (by omega) (by omega)
          have m4 : (m : Int) < (m : Int) + 1 + 1 := by omega
          have m5 : (m : Int) + 1 < (m : Int) + 1 + 1 := by omega
          have m6 : (0 : Int) ≤ (m : Int) + 1 := by omega
          have hres : sideN (px l a') (py l a') (px l b') (py l b') (px l nn) (py l nn) = sd (ptAt l a') (ptAt l b') (ptAt l nn) := rfl
          by_cases hs : sd (ptAt l a') (ptAt l b') (ptAt l nn) ≤ 0
          · have hsg : sg (sideN (px l a') (py l a') (px l b') (py l b') (px l nn) (py l nn)) ≤ 0 := sg_le (by rw [hres]; exact hs)
            have HS : Hid (sd (ptAt l a') (ptAt l b') (ptAt l nn) ≤ 0) := hs
            clear hs hres
            generalize hG : sg (sideN (px l a') (py l a') (px l b') (py l b') (px l nn) (py l nn)) = G at *
            go_wp2_with fail
            go_region_held3 (fun w' => Below wr.heap.size wr w' ∧ ∀ b o, b < wr.heap.size → w'.cell? ⟨b, o, none⟩ = wr.cell? ⟨b, o, none⟩) (first | exact keep0 _ | exact keep1 (by assumption) hb1)
              (first | (go_at_call 34; refine (ask1_any B b off cap l a' b' nn _ ha' hb' hnn (by omega) A2.hb A2.hB A2.cell A2.pts hn).mono ?_; rintro e w' ⟨rfl, hb1⟩; rw [hG]))
            have hS := (by assumption : Below wr.heap.size wr w' ∧ ∀ b o, b < wr.heap.size → w'.cell? ⟨b, o, none⟩ = wr.cell? ⟨b, o, none⟩)
            replace hown := own_below hown hS.1
            replace hnx := hnx.trans (hS.1.mono (by omega))
            clear hS q1 q2 q3 A2 hb1 hgg hq4
            have hcap : ((m : Int) + 1) ≤ (cap' : Int) := by omega
            go_wp2
            go_roundw
            case rel =>
              refine ⟨a' :: t, ?_, ?_, hnx, fun p hp => hst p (List.mem_cons_of_mem _ hp), by simp only [List.length_cons]; omega⟩
              · rw [← HP.out]; simp only [popN]; rw [if_pos HS.out]
              · have hx : (List.map toV (a' :: t).reverse).length = (m + 1) * 1 := by simp [hm]
                have := ownsRow_pop (last := [toV b']) hx (by simpa using hown)
                simpa [hm] using this
            case measure => simp [lenV]; omega
          · have hsg : 0 < sg (sideN (px l a') (py l a') (px l b') (py l b') (px l nn) (py l nn)) := sg_gt (by rw [hres]; omega)
            have HS : Hid (¬ sd (ptAt l a') (ptAt l b') (ptAt l nn) ≤ 0) := hs
            clear hs hres
            generalize hG : sg (sideN (px l a') (py l a') (px l b') (py l b') (px l nn) (py l nn)) = G at *
            go_wp2_with fail
            go_region_held3 (fun w' => Below wr.heap.size wr w' ∧ ∀ b o, b < wr.heap.size → w'.cell? ⟨b, o, none⟩ = wr.cell? ⟨b, o, none⟩) (first | exact keep0 _ | exact keep1 (by assumption) hb1)
              (first | (go_at_call 34; refine (ask1_any B b off cap l a' b' nn _ ha' hb' hnn (by omega) A2.hb A2.hB A2.cell A2.pts hn).mono ?_; rintro e w' ⟨rfl, hb1⟩; rw [hG]))
            have hS := (by assumption : Below wr.heap.size wr w' ∧ ∀ b o, b < wr.heap.size → w'.cell? ⟨b, o, none⟩ = wr.cell? ⟨b, o, none⟩)
            replace hown := own_below hown hS.1
            replace hnx := hnx.trans (hS.1.mono (by omega))
            have HM : Hid (t.length = m) := hm
            clear hS hm q1 q2 q3 A2 hb1 hgg hq4
            generalize w' = wq at *
            have hend : popN l nn (b' :: a' :: t) = b' :: a' :: t := by simp only [popN]; rw [if_neg (by have := HS.out; omega)]
            have hcn : chainN l (is.take (k + 1)) = nn :: b' :: a' :: t := by rw [HTK.out, ← HP.out, hend]
            have HCN : Hid (chainN l (is.take (k + 1)) = nn :: b' :: a' :: t) := hcn
            clear hcn hend HP HTK hst
            go_wp2_with (at_builtin; refine wpList_append_lies _ (by rfl) (.tmp 41) (.tmp 43) 26 (by rfl) (w.heap.size + 1) 3 i0 (.int .i64 0) 1 8 Tryz.underlying26 hi0 hz0 hz1 hz2 rfl (by decide) _ _ _ (by rfl) (hown.alloc _) ⟨wq.heap.size, 0, none⟩ 1 1 [.int .i64 nn] (by rfl) rfl ?c1 ?c2 (by decide) ?c3 ?c4 ?c5 (wq.heap.size + 1) ?c6 ?_)
            case c1 =>
              intro j u hj
              match j, hj with
              | 0, hj => simp at hj; subst hj; simp [Addr.add]
            case c2 => intro u hu; simp at hu; subst hu; rfl
            case c3 => unfold maxLen; omega
            case c4 => omega
            case c5 => have := hnx.size; simp at this ⊢; omega
            case c6 => simp
            · intro g2 cap2 w3 hown3 hgrow hat hlt3
              have R := chain_rel (toB := w.heap.size + 1) hown hnx hown3 hgrow (by have := hnx.size; simp at this; omega)
              clear hown3 hgrow hown hat
              go_wp2
              go_roundw
              case rel => exact ⟨k + 1, by omega, by go_num, by rw [HCN.out]; simpa [toV, HM.out] using R.1, R.2⟩
              case measure => simp [intOf]; omega
        | [x], hown, hst, hsl, HP =>
          rcases own_shape hown with ⟨_, h0⟩ | ⟨gg, cap', rfl⟩
          · simp at h0
          · have h1 : ((1 : Nat) : Int) < 2 := by omega
            simp only [List.length_cons, List.length_nil, Nat.zero_add] at hown
            skip
            go_wp2_with fail
            go_quiet (fail)
            replace hown := own_drewN (m := nq) hown
            replace hnx := below_drewN (m := nq) hnx
            generalize wr.drewN nq = wq at *
            have hend : popN l nn [x] = [x] := rfl
            have hcn : chainN l (is.take (k + 1)) = nn :: [x] := by rw [HTK.out, ← HP.out, hend]
            have HCN : Hid (chainN l (is.take (k + 1)) = nn :: [x]) := hcn
            clear hcn hend HP HTK hst
            go_wp2_with (at_builtin; refine wpList_append_lies _ (by rfl) (.tmp 41) (.tmp 43) 26 (by rfl) (w.heap.size + 1) 3 i0 (.int .i64 0) 1 8 Tryz.underlying26 hi0 hz0 hz1 hz2 rfl (by decide) _ _ _ (by rfl) (hown.alloc _) ⟨wq.heap.size, 0, none⟩ 1 1 [.int .i64 nn] (by rfl) rfl ?c1 ?c2 (by decide) ?c3 ?c4 ?c5 (wq.heap.size + 1) ?c6 ?_)
            case c1 =>
              intro j u hj
              match j, hj with
              | 0, hj => simp at hj; subst hj; simp [Addr.add]
            case c2 => intro u hu; simp at hu; subst hu; rfl
            case c3 => simp only [List.length_cons, List.length_nil] at hsl ⊢; unfold maxLen; omega
            case c4 => simp only [List.length_cons, List.length_nil] at hsl ⊢; omega
            case c5 => have := hnx.size; simp at this ⊢; omega
            case c6 => simp
            · intro g2 cap2 w3 hown3 hgrow hat hlt3
              have R := chain_rel (toB := w.heap.size + 1) hown hnx hown3 hgrow (by have := hnx.size; simp at this; omega)
              clear hown3 hgrow hown hat
              go_wp2
              go_roundw
              case rel => exact ⟨k + 1, by omega, by go_num, by rw [HCN.out]; simpa [toV] using R.1, R.2⟩
              case measure => simp [intOf]; omega
        | [], hown, hst, hsl, HP =>
          rcases own_shape hown with ⟨rfl, _⟩ | ⟨gg, cap', rfl⟩
          · skip
            go_wp2_with fail
            go_quiet (fail)
            replace hown := own_drewN (m := nq) hown
            replace hnx := below_drewN (m := nq) hnx
            generalize wr.drewN nq = wq at *
            have hend : popN l nn [] = [] := rfl
            have hcn : chainN l (is.take (k + 1)) = nn :: [] := by rw [HTK.out, ← HP.out, hend]
            have HCN : Hid (chainN l (is.take (k + 1)) = nn :: []) := hcn
            clear hcn hend HP HTK hst
            go_wp2_with (at_builtin; refine wpList_append_lies _ (by rfl) (.tmp 41) (.tmp 43) 26 (by rfl) (w.heap.size + 1) 3 i0 (.int .i64 0) 1 8 Tryz.underlying26 hi0 hz0 hz1 hz2 rfl (by decide) _ _ _ (by rfl) (hown.alloc _) ⟨wq.heap.size, 0, none⟩ 1 1 [.int .i64 nn] (by rfl) rfl ?c1 ?c2 (by decide) ?c3 ?c4 ?c5 (wq.heap.size + 1) ?c6 ?_)
            case c1 =>
              intro j u hj
              match j, hj with
              | 0, hj => simp at hj; subst hj; simp [Addr.add]
            case c2 => intro u hu; simp at hu; subst hu; rfl
            case c3 => simp only [List.length_cons, List.length_nil] at hsl ⊢; unfold maxLen; omega
            case c4 => simp only [List.length_cons, List.length_nil] at hsl ⊢; omega
            case c5 => have := hnx.size; simp at this ⊢; omega
            case c6 => simp
            · intro g2 cap2 w3 hown3 hgrow hat hlt3
              have R := chain_rel (toB := w.heap.size + 1) hown hnx hown3 hgrow (by have := hnx.size; simp at this; omega)
              clear hown3 hgrow hown hat
              go_wp2
              go_roundw
              case rel => exact ⟨k + 1, by omega, by go_num, by rw [HCN.out]; simpa [toV] using R.1, R.2⟩
              case measure => simp [intOf]; omega
          · skip
            go_wp2_with fail
            go_quiet (fail)
            replace hown := own_drewN (m := nq) hown
            replace hnx := below_drewN (m := nq) hnx
            generalize wr.drewN nq = wq at *
            have hend : popN l nn [] = [] := rfl
            have hcn : chainN l (is.take (k + 1)) = nn :: [] := by rw [HTK.out, ← HP.out, hend]
            have HCN : Hid (chainN l (is.take (k + 1)) = nn :: []) := hcn
            clear hcn hend HP HTK hst
            go_wp2_with (at_builtin; refine wpList_append_lies _ (by rfl) (.tmp 41) (.tmp 43) 26 (by rfl) (w.heap.size + 1) 3 i0 (.int .i64 0) 1 8 Tryz.underlying26 hi0 hz0 hz1 hz2 rfl (by decide) _ _ _ (by rfl) (hown.alloc _) ⟨wq.heap.size, 0, none⟩ 1 1 [.int .i64 nn] (by rfl) rfl ?c1 ?c2 (by decide) ?c3 ?c4 ?c5 (wq.heap.size + 1) ?c6 ?_)
            case c1 =>
              intro j u hj
              match j, hj with
              | 0, hj => simp at hj; subst hj; simp [Addr.add]
            case c2 => intro u hu; simp at hu; subst hu; rfl
            case c3 => simp only [List.length_cons, List.length_nil] at hsl ⊢; unfold maxLen; omega
            case c4 => simp only [List.length_cons, List.length_nil] at hsl ⊢; omega
            case c5 => have := hnx.size; simp at this ⊢; omega
            case c6 => simp
            · intro g2 cap2 w3 hown3 hgrow hat hlt3
              have R := chain_rel (toB := w.heap.size + 1) hown hnx hown3 hgrow (by have := hnx.size; simp at this; omega)
              clear hown3 hgrow hown hat
              go_wp2
              go_roundw
              case rel => exact ⟨k + 1, by omega, by go_num, by rw [HCN.out]; simpa [toV] using R.1, R.2⟩
              case measure => simp [intOf]; omega
    · go_wp2
      go_ret
      have : is.take k = is := List.take_of_length_le (by omega)
      rw [this] at hown
      exact ⟨_, rfl, own_base hown, (below1 _ _).trans (hnx.mono (by omega))⟩

end Go.Proofs.YtgpapegpdfonpaaGreatDoor
