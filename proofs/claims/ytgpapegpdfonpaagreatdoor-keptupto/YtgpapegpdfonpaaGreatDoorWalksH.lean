/-
  hull.Corners: the corners' numbers.
-/
import Derived.Test.YtgpapegpdfonpaaGreatDoorWalksG
import Derived.Test.YtgpapegpdfonpaaGreatDoorHullAll
namespace Go.Proofs.YtgpapegpdfonpaaGreatDoor
set_option linter.unusedVariables false
set_option linter.unusedSimpArgs false
open Go.RowKit
attribute [local go_sem ↓] Go.wp_at_zero Go.wp_at_succ

def lowN (l : List Pt) (is : List Nat) : List Nat := (chainN l is).reverse
def upN (l : List Pt) (is : List Nat) : List Nat := (chainN l is.reverse).reverse
def cornersN (l : List Pt) (is : List Nat) : List Nat := if is.length < 2 then is else (lowN l is).dropLast ++ (upN l is).dropLast

theorem lowN_map (l : List Pt) (is : List Nat) : (lowN l is).map (ptAt l) = lowerC (is.map (ptAt l)) := by unfold lowN lowerC; rw [List.map_reverse, chainN_map]
theorem upN_map (l : List Pt) (is : List Nat) : (upN l is).map (ptAt l) = upperC (is.map (ptAt l)) := by unfold upN upperC; rw [List.map_reverse, chainN_map, List.map_reverse]
theorem cornersN_map (l : List Pt) (is : List Nat) : (cornersN l is).map (ptAt l) = hullP (is.map (ptAt l)) := by
  unfold cornersN hullP
  simp only [List.length_map]
  split
  · rfl
  · rw [List.map_append, ← lowN_map, ← upN_map, List.map_dropLast, List.map_dropLast]

theorem NatsAt.below {N : Nat} {w w' : World} {g : Nat} {is : List Nat} (h : NatsAt w g 0 is) (hb : Below N w w') (hg : g < N) : NatsAt w' g 0 is := fun j hj =>
  (hb.cell (p := ⟨g, 0 + j, none⟩) hg).trans (h j hj)

theorem below_of_drew {N : Nat} {w w' : World} (h : Below N w.drew w') : Below N w w' := ⟨h.os, h.tape, h.output, h.size, h.block⟩

theorem own_mono {w : World} {a b n : Nat} {e : TypeId} {xs : List Value} {v : Value} (h : w.ownsRow a e 1 v n xs) (hb : b ≤ a) : w.ownsRow b e 1 v n xs := by
  obtain ⟨hl, hn⟩ := h
  refine ⟨hl, ?_⟩
  rcases hn with hn | ⟨g', cap', cur, hv, hg, r⟩
  · exact .inl hn
  · exact .inr ⟨g', cap', cur, hv, by omega, r⟩
theorem own_drop {w : World} {base g cap m : Nat} {e : TypeId} {is : List Nat} (h : w.ownsRow base e 1 (.slice (some ⟨g, 0, none⟩) (m + 1) cap) (m + 1) (is.map toV)) (hl : is.length = m + 1) :
    w.ownsRow base e 1 (.slice (some ⟨g, 0, none⟩) m cap) m (is.dropLast.map toV) := by
  have hne : is ≠ [] := by intro e; subst e; simp at hl
  have e : is.map toV = is.dropLast.map toV ++ [toV (is.getLast hne)] := by
    rw [← List.map_singleton, ← List.map_append, List.dropLast_concat_getLast]
  rw [e] at h
  exact ownsRow_pop (by simp [hl]) h

theorem clone_any (g ocap : Nat) (is : List Nat) (w : World) (hlen : is.length ≤ 60) (his : NatsAt w g 0 is) (h1 : 1 ≤ is.length) :
    Calls Tryz.prog 119 #[.slice (some ⟨g, 0, none⟩) is.length ocap] w fun e w' =>
      ∃ gb cb, e = .returned (.slice (some ⟨gb, 0, none⟩) is.length cb) ∧ w'.ownsRow w.heap.size 3 1 (.slice (some ⟨gb, 0, none⟩) is.length cb) is.length (is.map toV) ∧ Below w.heap.size w w' := by
  have h := Any.slices_Clone_int Tryz.layClone g 0 is.length ocap (is.map fun i : Nat => (i : Int)) w (by simp) (by omega) (fun j hj => by
    have hj' : j < is.length := by simpa using hj
    have := his j hj'
    rw [this]
    simp [hj'])
  change Calls Tryz.prog 119 _ _ _ at h
  refine h.mono ?_
  rintro e w' ⟨v', he, hown, hne, hb⟩
  have hxs : (List.take is.length (is.map fun i : Nat => (i : Int))).map (Value.int .i64) = is.map toV := by
    rw [List.take_of_length_le (by simp)]; simp [toV]
  rw [hxs] at hown
  change w'.ownsRow w.heap.size 3 1 v' is.length (is.map toV) at hown
  rcases own_shape hown with ⟨h0, _⟩ | ⟨gb, cb, hv⟩
  · exact absurd h0 hne
  · subst hv
    exact ⟨gb, cb, he, hown, hb⟩

theorem reverse_any (gb cb base : Nat) (is : List Nat) (w : World) (hlen : is.length ≤ 60) (hown : w.ownsRow base 3 1 (.slice (some ⟨gb, 0, none⟩) is.length cb) is.length (is.map toV)) :
    Calls Tryz.prog 120 #[.slice (some ⟨gb, 0, none⟩) is.length cb] w fun e w' =>
      e = .returned (.tuple #[]) ∧ Below base w w' ∧ NatsAt w' gb 0 is.reverse ∧ w'.heap.size = w.heap.size := by
  obtain ⟨hgb, hbase, hcl⟩ := own_lt hown
  have hH : Sort.Holds (Value.int .i64) w gb 0 (is.map fun i : Nat => (i : Int)).toArray := by
    intro j hj
    have hj' : j < is.length := by simpa using hj
    have hc := own_cell hown j (toV is[j]) (by simp [hj'])
    refine ⟨by rw [Nat.zero_add, hc]; simp [toV, hj'], ?_⟩
    obtain ⟨_, hn⟩ := hown
    rcases hn with ⟨hn, _⟩ | ⟨g', cap', cur, hv, hg, hh, r⟩
    · cases hn
    · cases hv
      simp [World.frozen?, hh]
  have h := Any.slices_Reverse_int Tryz.layReverse gb 0 cb (is.map fun i : Nat => (i : Int)) w hH (by simp; omega)
  change Calls Tryz.prog 120 _ _ _ at h
  rw [List.length_map] at h
  refine h.mono ?_
  rintro e w' ⟨he, n, hw⟩
  refine ⟨he, ?_, ?_, ?_⟩
  · subst hw
    refine ⟨rfl, rfl, rfl, ?_, fun k hk => ?_⟩
    · rw [Sort.size_putRow]; exact Nat.le_refl _
    · unfold Sort.putRow Sort.mapBlock
      simp only [Array.getElem?_modify]
      rw [if_neg (by omega)]
      rfl
  · intro j hj
    have hj' : j < is.length := by simpa using hj
    rw [hw, Sort.cell?_putRow (Value.int .i64) _ gb 0 _ _ (Sort.holds_ahead _ _ _ _ _ _ hH) (by simp) j (by simpa using hj')]
    have : (is.map fun i : Nat => (i : Int)).reverse.toArray[j]! = ((is.reverse.getD j 0 : Nat) : Int) := by
      rw [← List.map_reverse]
      simp [hj']
    rw [this]
  · rw [hw, Sort.size_putRow]; rfl

set_option maxHeartbeats 2000000 in
theorem corners_many (B b off cap g ocap : Nat) (l : List Pt) (is : List Nat) (w : World) (hl : l.length ≤ 60) (hi : ∀ i ∈ is, i < l.length) (hlen : is.length ≤ 60) (A : AskAt w B b off cap l) (hn : AllNear l)
    (hg : g < w.heap.size) (his : NatsAt w g 0 is) (h2 : 2 ≤ is.length) (hord : Ordered (is.map (ptAt l))) :
    Calls Tryz.prog 89 #[.slice (some ⟨g, 0, none⟩) is.length ocap, askV B] w fun e w' =>
      ∃ v, e = .returned v ∧ w'.ownsRow w.heap.size 3 1 v (cornersN l is).length ((cornersN l is).map toV) ∧ Below w.heap.size w w' := by
  obtain ⟨m, k, T⟩ := two_of hord (by simpa using h2)
  have lm : (chainN l is).length = m + 1 := by have := T.lm; rw [← lowN_map] at this; simpa [lowN] using this
  have lk : (chainN l is.reverse).length = k + 1 := by have := T.lk; rw [← upN_map] at this; simpa [upN] using this
  have m1 := T.m1; have k1 := T.k1
  have hcor : cornersN l is = (lowN l is).dropLast ++ (upN l is).dropLast := by unfold cornersN; rw [if_neg (by omega)]
  have mb : m + 1 ≤ 60 := by have := chainN_len l is; omega
  have kb : k + 1 ≤ 60 := by have := chainN_len l is.reverse; simp at this; omega
  obtain ⟨i0, hi0, hz0, hz1, hz2⟩ := info_parts info3
  clear T hord
  have hlt2 : ¬ ((is.length : Int) < 2) := by omega
  go_enter Tryz.func89, Tryz.ntmps89
  go_wp2_with fail
  refine (clone_any g ocap is _ hlen (his.below (below1 _ _) hg) (by omega)).mono ?_
  rintro e w1 ⟨gb, cb, rfl, hown1, hb1⟩
  obtain ⟨hgb, hgb2, _⟩ := own_lt hown1
  go_wp2_with (go_at_call 120; refine (reverse_any gb cb _ is _ hlen hown1).mono ?_; rintro e w2 ⟨rfl, hb2, hnb, hz2'⟩)
  have hB2 : Below (w.heap.size + 1) (w.alloc (.cells #[.func (.func 34) #[] #[.pointer (some ⟨B, 0, none⟩)], .func (.func 36) #[] #[.pointer (some ⟨B, 0, none⟩)]] 60)) w2 := by
    simp only [World.size_alloc] at hb1 hb2
    exact hb1.trans hb2
  have hW2 : Below w.heap.size w w2 := (below1 _ _).trans (hB2.mono (by omega))
  have A2 : AskAt w2 B b off cap l := A.below hW2 (Nat.le_refl _)
  have his2 : NatsAt w2 g 0 is := his.below hW2 hg
  have q0 : w2.cell? ⟨w.heap.size, 0, none⟩ = some (.func (.func 34) #[] #[.pointer (some ⟨B, 0, none⟩)]) := by
    rw [hB2.cell (p := ⟨w.heap.size, 0, none⟩) (by simp), World.cell?_alloc_at _ _ _ _ rfl]; rfl
  have q1 : w2.cell? ⟨w.heap.size, 1, none⟩ = some (.func (.func 36) #[] #[.pointer (some ⟨B, 0, none⟩)]) := by
    rw [hB2.cell (p := ⟨w.heap.size, 1, none⟩) (by simp), World.cell?_alloc_at _ _ _ _ rfl]; rfl
  have y0 : w.heap.size < w2.heap.size := by have := hB2.size; simp at this; omega
  have y1 : g < w2.heap.size := by omega
  have y2 : gb < w2.heap.size := by omega
  have hir : ∀ i ∈ is.reverse, i < l.length := fun i h => hi i (by simpa using h)
  have hlr : is.reverse.length ≤ 60 := by simpa using hlen
  have elr : is.reverse.length = is.length := by simp
  have HC1 := fun W (A : AskAt W B b off cap l) (hn' : NatsAt W g 0 is) (hgW : g < W.heap.size) => chain_any B b off cap g ocap l is W hl hi hlen A hn hgW hn'
  have HC2 := fun W (A : AskAt W B b off cap l) (hn' : NatsAt W gb 0 is.reverse) (hgW : gb < W.heap.size) => chain_any B b off cap gb cb l is.reverse W hl hir hlr A hn hgW hn'
  rw [elr] at HC2
  have HL : Hid ((chainN l is).length = m + 1) := lm
  have HK : Hid ((chainN l is.reverse).length = k + 1) := lk
  have HCOR : Hid (cornersN l is = (lowN l is).dropLast ++ (upN l is).dropLast) := hcor
  clear hb1 hb2 hB2 his A hown1 hz2' hgb hgb2 lm lk hcor elr hir hlr
  go_region_held3 (fun w' => Below w2.heap.size w2 w' ∧ ∀ b o, b < w2.heap.size → w'.cell? ⟨b, o, none⟩ = w2.cell? ⟨b, o, none⟩) (first | exact keep0 _ | exact keep1 (by assumption) hb1)
    (first
      | (go_at_call_of 121 (Value.slice (some ⟨g, 0, none⟩) is.length ocap); refine (HC1 _ A2.drew his2 y1).mono ?_; rintro e w3 ⟨v1, rfl, hown1, hb1⟩; have hb1' : Below w2.heap.size w2 w3 := below_of_drew hb1; have A3 := A2.below hb1' (Nat.le_refl _); have hnb3 := hnb.below hb1' y2; have y3 := Nat.lt_of_lt_of_le y2 hb1'.size)
      | (go_at_call_of 121 (Value.slice (some ⟨gb, 0, none⟩) is.length cb); refine (HC2 _ A3 hnb3 y3).mono ?_; rintro e w4 ⟨v2, rfl, hown2, hb1⟩; have hb2' : Below w3.heap.size w3 w4 := hb1))
  go_wp2_with fail
  have hb24 : Below w2.heap.size w2 w4 := hb1'.trans (hb2'.mono hb1'.size)
  have o1 := own_below hown1 hb2'
  rw [HL.out] at o1
  rw [HK.out] at hown2
  have o2 := hown2
  rcases own_shape o1 with ⟨_, h0⟩ | ⟨g1, c1, rfl⟩
  · omega
  rcases own_shape o2 with ⟨_, h0⟩ | ⟨g2, c2, rfl⟩
  · omega
  obtain ⟨hg1, hgb1, hc1⟩ := own_lt o1
  obtain ⟨hg2, hgb2, hc2⟩ := own_lt o2
  replace o1 := own_mono (b := w.heap.size) o1 (by have := hW2.size; simp; exact this)
  have o1p := own_drop o1 (show (lowN l is).length = m + 1 by simpa [lowN] using HL.out)
  have hnews : ∀ j u, ((upN l is).dropLast.map toV)[j]? = some u → w4.cell? ((⟨g2, 0, none⟩ : Addr).add j) = some u := by
    intro j u hj
    have : (List.map toV (chainN l is.reverse).reverse)[j]? = some u := by
      rw [List.getElem?_map] at hj ⊢
      rw [List.getElem?_dropLast] at hj
      split at hj
      · exact hj
      · simp at hj
    have := own_cell o2 j u this
    have hadd : (⟨g2, 0, none⟩ : Addr).add j = ⟨g2, j, none⟩ := by unfold Addr.add; split <;> simp_all
    rw [hadd]; exact this
  have hnl : ((upN l is).dropLast.map toV).length = k * 1 := by simp [upN, HK.out]
  have hone : ∀ u ∈ (upN l is).dropLast.map toV, u.oneCell' = true := by
    intro u hu
    obtain ⟨x, _, rfl⟩ := List.mem_map.1 hu
    rfl
  have hbase : w.heap.size ≤ w4.heap.size := Nat.le_trans hW2.size hb24.size
  have hW4 : Below w.heap.size w w4 := hW2.trans (hb24.mono hW2.size)
  have hcl : (cornersN l is).map toV = (lowN l is).dropLast.map toV ++ (upN l is).dropLast.map toV := by rw [HCOR.out, List.map_append]
  have hcn : (cornersN l is).length = m + k := by rw [HCOR.out]; simp [lowN, upN, HL.out, HK.out]
  have HCL : Hid ((cornersN l is).map toV = (lowN l is).dropLast.map toV ++ (upN l is).dropLast.map toV) := hcl
  have HCN : Hid ((cornersN l is).length = m + k) := hcn
  have x0 : (0 : Int) ≤ (m : Int) := by omega
  have x1 : (m : Int) ≤ (c1 : Int) := by omega
  have x2 : (0 : Int) ≤ (k : Int) := by omega
  have x3 : (k : Int) ≤ (c2 : Int) := by omega
  have x4 : IntKind.i64.wrap (m : Int) = (m : Int) := wrap_id (by omega) (by omega)
  have x5 : IntKind.i64.wrap (k : Int) = (k : Int) := wrap_id (by omega) (by omega)
  have hHH : w4.drew.heap.size = w4.heap.size := rfl
  clear hcl hcn HC1 HC2 hown1 hown2 o1 o2 A2 A3 hnb hnb3 his2 q0 q1 hb1 hb1' hb2' HL HK
  go_region_held3 (fun w' => True) (trivial)
    ((refine step_append_lies _ (by rfl) (.tmp 27) (.tmp 32) 26 (by rfl) w.heap.size 3 i0 (.int .i64 0) 1 8 Tryz.underlying26 hi0 hz0 hz1 hz2 rfl (by decide) (.slice (some ⟨g1, 0, none⟩) m c1) m ((lowN l is).dropLast.map toV) (by rfl) (World.ownsRow.drew o1p) ⟨g2, 0, none⟩ k c2 ((upN l is).dropLast.map toV) (by rfl) hnl hnews hone (by omega) (by unfold maxLen; omega) (by omega) hbase w4.heap.size hHH ?_; intro g3 c3 w5 hown5 hgrow hat hlt5))
  go_wp2
  go_ret
  refine ⟨_, rfl, by rw [HCN.out, HCL.out]; exact hown5, hW4.drew.grown hgrow hbase fun k hk => ?_⟩
  cases hk
  have : w2.heap.size ≤ g1 := hgb1
  have := hW2.size
  show w.heap.size ≤ g1
  omega

set_option maxHeartbeats 800000 in
theorem corners_one (B b off cap g ocap : Nat) (l : List Pt) (i : Nat) (w : World) (A : AskAt w B b off cap l) (hg : g < w.heap.size) (his : NatsAt w g 0 [i]) :
    Calls Tryz.prog 89 #[.slice (some ⟨g, 0, none⟩) 1 ocap, askV B] w fun e w' =>
      ∃ v, e = .returned v ∧ w'.ownsRow w.heap.size 3 1 v (cornersN l [i]).length ((cornersN l [i]).map toV) ∧ Below w.heap.size w w' := by
  have hC := clone_any g ocap [i] _ (by simp) (his.below (below1 _ (.cells #[.func (.func 34) #[] #[.pointer (some ⟨B, 0, none⟩)], .func (.func 36) #[] #[.pointer (some ⟨B, 0, none⟩)]] 60)) hg) (by simp)
  go_enter Tryz.func89, Tryz.ntmps89
  go_wp2_with (go_at_call 119; refine hC.mono ?_; rintro e w1 ⟨gb, cb, rfl, hown1, hb1⟩)
  go_ret
  refine ⟨_, rfl, own_mono hown1 (by simp), (below1 _ _).trans (hb1.mono (by simp))⟩

end Go.Proofs.YtgpapegpdfonpaaGreatDoor
