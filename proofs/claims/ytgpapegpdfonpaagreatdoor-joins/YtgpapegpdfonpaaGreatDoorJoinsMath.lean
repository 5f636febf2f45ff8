/-
  What the statement of the second stage asks of triangles: edges gone along, the rim.
-/
import Derived.Test.YtgpapegpdfonpaaGreatDoorEmptyMath
namespace Go.Proofs.YtgpapegpdfonpaaGreatDoor
set_option linter.unusedVariables false
set_option linter.unusedSimpArgs false

/-- b is the next one on the rim behind a -/
def rimP (l : List Pt) (a b : Nat) : Prop := a ≠ b ∧ ∀ j, j < l.length → j ≠ a → j ≠ b → 0 ≤ sd (ptAt l a) (ptAt l b) (ptAt l j) ∧ (sd (ptAt l a) (ptAt l b) (ptAt l j) = 0 → 0 ≤ dt (ptAt l a) (ptAt l b) (ptAt l j))
/-- a triangle goes from a to b -/
def goneP (ts : List T3) (a b : Int) : Prop := ∃ t ∈ ts, ∃ k, k < 3 ∧ nth3 t k = a ∧ nth3 t ((k + 1) % 3) = b

structure IsOk (l : List Pt) (ts : List T3) : Prop where
  off : ∃ i, 2 ≤ i ∧ i < l.length ∧ sd (ptAt l 0) (ptAt l 1) (ptAt l i) ≠ 0
  tri : ∀ t ∈ ts, (0 ≤ t.1 ∧ t.1 < t.2.1 ∧ t.1 < t.2.2 ∧ t.2.1 < l.length ∧ t.2.2 < l.length) ∧ 0 < sd (pOf l t.1) (pOf l t.2.1) (pOf l t.2.2) ∧ ∀ d, d < l.length → cc (pOf l t.1) (pOf l t.2.1) (pOf l t.2.2) (ptAt l d) ≤ 0
  alg : ts.Pairwise (fun s t => alongB s t = false)
  srt : ts.Pairwise t3lt
  uniq : ∀ a b c, a < l.length → b < l.length → c < l.length → rimP l a b → rimP l a c → b = c
  rim : ∀ a b : Nat, a < l.length → b < l.length → rimP l a b → goneP ts a b ∧ ¬ goneP ts b a
  mate : ∀ a b : Nat, a < l.length → b < l.length → ¬ rimP l a b → ¬ rimP l b a → (goneP ts a b ↔ goneP ts b a)

theorem line_on {l : List Pt} {is : List Nat} (hio : InOrder l is) (hnd : l.Nodup) (hall : AllOn l is) (hl : 2 ≤ l.length) {a b c : Nat} (ha : a < l.length) (hb : b < l.length) (hc : c < l.length) : sd (ptAt l a) (ptAt l b) (ptAt l c) = 0 := by
  have hlen := hio.len
  have h01 : ptAt l (is.getD 0 0) ≠ ptAt l (is.getD 1 0) := fun e => by
    have := ptAt_inj hnd (hio.lt _ (mem_getD (by omega))) (hio.lt _ (mem_getD (by omega))) e
    have := getD_inj hio.nodup (show 0 < is.length by omega) (show 1 < is.length by omega) this
    omega
  have on : ∀ k, k < l.length → sd (ptAt l (is.getD 0 0)) (ptAt l (is.getD 1 0)) (ptAt l k) = 0 := by
    intro k hk
    have hm : k ∈ is := hio.perm.mem_iff.2 (List.mem_range.2 hk)
    obtain ⟨j, hj, e⟩ := List.getElem_of_mem hm
    have e' : is.getD j 0 = k := by simp [hj, e]
    rcases Nat.lt_or_ge j 2 with h2 | h2
    · have : j = 0 ∨ j = 1 := by omega
      rcases this with rfl | rfl
      · rw [← e']; exact sd_A _ _
      · rw [← e']; exact sd_B _ _
    · have := hall j h2 hj
      rw [e'] at this
      exact (sg_zero_iff _).1 this
  exact col3 h01 (on a ha) (on b hb) (on c hc)

theorem is_ok {l : List Pt} {is : List Nat} {t p q r : Nat} {ts : List T3} (hio : InOrder l is) (hnd : l.Nodup) (hn : AllNear l) (BS : Base l is t p q r)
    (hm : ∀ x y z, (x, y, z) ∈ ts ↔ trAt l is t p q r is.length x y z ∧ 0 ≤ x ∧ x < y ∧ x < z) (hp : ts.Pairwise t3lt) : IsOk l ts := by
  have F := fill_ok hio hnd hn (arr_of hio hnd) (cornersN_nodup hio hnd) BS hm hp
  obtain ⟨N, hSn, hSr⟩ := net_at hio hnd hn BS is.length (Nat.le_refl _)
  have hS := mem_all hio BS
  have hbs := BS.sd
  obtain ⟨mp, mq, mr⟩ := BS.mems
  have lp := hio.lt _ mp
  have lq := hio.lt _ mq
  have lr := hio.lt _ mr
  have hl3 : 3 ≤ l.length := by have := BS.off.1; have := BS.off.2.1; have := hio.len; omega
  clear BS
  generalize sAt is t p q r is.length = S at *
  generalize trAt l is t p q r is.length = Tr at *
  have pe : ∀ k : Nat, pOf l (k : Int) = ptAt l k := fun k => by unfold pOf; rw [Int.toNat_natCast]
  have mS : ∀ k : Nat, k < l.length → (k : Int) ∈ S := fun k hk => (hS _).2 ⟨by omega, by omega⟩
  -- the rim is the net's
  have rimT : ∀ a b : Nat, a < l.length → b < l.length → (rimP l a b ↔ Tr b a (-1)) := by
    intro a b ha hb
    constructor
    · intro h
      refine N.of_bnd ⟨mS a ha, mS b hb, by have := h.1; omega, fun x hx => ?_⟩
      have hx' := (hS x).1 hx
      obtain ⟨j, rfl⟩ : ∃ j : Nat, x = j := ⟨x.toNat, by omega⟩
      rw [pe, pe, pe]
      by_cases h1 : j = a
      · subst h1
        have e1 : sd (ptAt l j) (ptAt l b) (ptAt l j) = 0 := sd_A _ _
        have e2 : dt (ptAt l j) (ptAt l b) (ptAt l j) = 0 := by unfold dt; grind
        rw [e1, e2]; exact ⟨Int.le_refl _, fun _ => Int.le_refl _⟩
      · by_cases h2 : j = b
        · subst h2
          have e1 : sd (ptAt l a) (ptAt l j) (ptAt l j) = 0 := sd_B _ _
          have e2 : dt (ptAt l a) (ptAt l j) (ptAt l j) = 0 := by unfold dt; grind
          rw [e1, e2]; exact ⟨Int.le_refl _, fun _ => Int.le_refl _⟩
        · exact h.2 j (by omega) h1 h2
    · intro h
      obtain ⟨_, _, hne, hall⟩ := N.bnd_of h
      refine ⟨fun e => hne (by rw [e]), fun j hj _ _ => ?_⟩
      have := hall j (mS j hj)
      rw [pe, pe, pe] at this
      exact this
  have goneT : ∀ a b : Nat, a < l.length → b < l.length → (goneP ts a b ↔ ∃ z, 0 ≤ z ∧ Tr a b z) := by
    intro a b ha hb
    constructor
    · rintro ⟨⟨x, y, z⟩, ht, k, hk, e1, e2⟩
      obtain ⟨h1, h2, h3, h4⟩ := (hm x y z).1 ht
      have hk3 : k = 0 ∨ k = 1 ∨ k = 2 := by omega
      rcases hk3 with rfl | rfl | rfl <;> simp only [Nat.zero_add, Nat.reduceAdd, Nat.reduceMod, nth3_0, nth3_1, nth3_2] at e1 e2
      · exact ⟨z, by omega, by rw [← e1, ← e2]; exact h1⟩
      · exact ⟨x, by omega, by rw [← e1, ← e2]; exact N.rot h1⟩
      · exact ⟨y, by omega, by rw [← e1, ← e2]; exact N.rot (N.rot h1)⟩
    · rintro ⟨z, hz, h⟩
      have t2 := N.rot h
      have t3 := N.rot t2
      obtain ⟨n1, n2, n3⟩ := N.ne3 h
      rcases Int.lt_or_le (a : Int) (b : Int) with h1 | h1
      · rcases Int.lt_or_le (a : Int) z with h2 | h2
        · exact ⟨(a, b, z), (hm _ _ _).2 ⟨h, by omega, h1, h2⟩, 0, by omega, rfl, rfl⟩
        · exact ⟨(z, a, b), (hm _ _ _).2 ⟨t3, hz, by omega, by omega⟩, 1, by omega, rfl, rfl⟩
      · rcases Int.lt_or_le (b : Int) z with h2 | h2
        · exact ⟨(b, z, a), (hm _ _ _).2 ⟨t2, by omega, h2, by omega⟩, 2, by omega, rfl, rfl⟩
        · exact ⟨(z, a, b), (hm _ _ _).2 ⟨t3, hz, by omega, by omega⟩, 1, by omega, rfl, rfl⟩
  have back : ∀ a b : Nat, a < l.length → b < l.length → ¬ rimP l a b → goneP ts a b → goneP ts b a := by
    intro a b ha hb hr hg
    obtain ⟨z, hz, h⟩ := (goneT a b ha hb).1 hg
    obtain ⟨w, hw⟩ := N.pair h
    refine (goneT b a hb ha).2 ⟨w, ?_, hw⟩
    rcases N.lab (N.rot (N.rot hw)) with e | e
    · subst e
      exact absurd ((rimT a b ha hb).2 hw) hr
    · exact N.nn _ e
  refine ⟨?_, F.tri, F.alg, F.srt, ?_, ?_, ?_⟩
  · refine Classical.byContradiction fun hno => ?_
    have on : ∀ k, k < l.length → sd (ptAt l 0) (ptAt l 1) (ptAt l k) = 0 := by
      intro k hk
      refine Classical.byContradiction fun h => ?_
      rcases Nat.lt_or_ge k 2 with h2 | h2
      · have : k = 0 ∨ k = 1 := by omega
        rcases this with rfl | rfl
        · exact h (sd_A _ _)
        · exact h (sd_B _ _)
      · exact hno ⟨k, h2, hk, h⟩
    have h01 : ptAt l 0 ≠ ptAt l 1 := fun e => by have := ptAt_inj hnd (show 0 < l.length by omega) (show 1 < l.length by omega) e; omega
    have := col3 h01 (on _ lp) (on _ lq) (on _ lr)
    omega
  · intro a b c ha hb hc h1 h2
    have k1 := N.rot ((rimT a b ha hb).1 h1)
    have k2 := N.rot ((rimT a c ha hc).1 h2)
    have := N.fn k1 k2
    omega
  · intro a b ha hb h
    have g := (rimT a b ha hb).1 h
    obtain ⟨z, hz, hr⟩ := N.ghost_pair g
    refine ⟨(goneT a b ha hb).2 ⟨z, N.nn _ hz, hr⟩, fun hg => ?_⟩
    obtain ⟨z', hz', h'⟩ := (goneT b a hb ha).1 hg
    have := N.fn g h'
    omega
  · intro a b ha hb h1 h2
    exact ⟨back a b ha hb h1, back b a hb ha h2⟩
end Go.Proofs.YtgpapegpdfonpaaGreatDoor
