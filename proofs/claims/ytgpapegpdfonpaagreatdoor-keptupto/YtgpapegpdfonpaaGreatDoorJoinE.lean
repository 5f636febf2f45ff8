/-
  What the map of a net holds; whether a triangle can stay, by the net.
-/
import Derived.Test.YtgpapegpdfonpaaGreatDoorJoinD
import Derived.Test.YtgpapegpdfonpaaGreatDoorNetAll
namespace Go.Proofs.YtgpapegpdfonpaaGreatDoor
set_option linter.unusedVariables false
set_option linter.unusedSimpArgs false
open Go.RowKit Go.Maps

open Classical in
/-- a triangle at each two numbers that it goes along -/
noncomputable def fOf (T : Int → Int → Int → Prop) (x y : Int) : Option Value := if h : ∃ z, T x y z then some (rotV x y (Classical.choose h)) else none

def Fn (T : Int → Int → Int → Prop) : Prop := ∀ x y z w, T x y z → T x y w → z = w
theorem NetOf.fnT {P : Int → Pt} {S : List Int} {a b c : Int} {Tr : Int → Int → Int → Prop} (N : NetOf P S a b c Tr) : Fn Tr := fun _ _ _ _ h h' => N.fn h h'

theorem fOf_some {T : Int → Int → Int → Prop} (hF : Fn T) {x y z : Int} (h : T x y z) : fOf T x y = some (rotV x y z) := by
  unfold fOf
  have hx : ∃ z, T x y z := ⟨z, h⟩
  rw [dif_pos hx, hF _ _ _ _ (Classical.choose_spec hx) h]
theorem fOf_none {T : Int → Int → Int → Prop} {x y : Int} (h : ∀ z, ¬ T x y z) : fOf T x y = none := by
  unfold fOf; rw [dif_neg (fun ⟨z, hz⟩ => h z hz)]
theorem fOf_inv {T : Int → Int → Int → Prop} {x y : Int} {v : Value} (h : fOf T x y = some v) : ∃ z, T x y z ∧ v = rotV x y z := by
  unfold fOf at h
  split at h
  · rename_i hx
    simp only [Option.some.injEq] at h
    exact ⟨_, Classical.choose_spec hx, h.symm⟩
  · cases h
theorem fOf_isSome {T : Int → Int → Int → Prop} {x y : Int} : (fOf T x y).isSome = true ↔ ∃ z, T x y z := by
  constructor
  · intro h
    obtain ⟨v, hv⟩ := Option.isSome_iff_exists.1 h
    obtain ⟨z, hz, _⟩ := fOf_inv hv
    exact ⟨z, hz⟩
  · rintro ⟨z, hz⟩
    unfold fOf
    rw [dif_pos ⟨z, hz⟩]; rfl
theorem fOf_ne {T : Int → Int → Int → Prop} {x y : Int} : fOf T x y ≠ none ↔ ∃ z, T x y z := by
  rw [← fOf_isSome, Option.isSome_iff_ne_none]
theorem fOf_congr {T T' : Int → Int → Int → Prop} (hF' : Fn T') {x y : Int} (h : ∀ z, T x y z ↔ T' x y z) : fOf T x y = fOf T' x y := by
  by_cases hx : ∃ z, T x y z
  · obtain ⟨z, hz⟩ := hx
    have hF : ∀ w, T x y w → w = z := fun w hw => hF' _ _ _ _ ((h w).1 hw) ((h z).1 hz)
    rw [fOf_some hF' ((h z).1 hz)]
    unfold fOf
    have hx : ∃ z, T x y z := ⟨z, hz⟩
    rw [dif_pos hx, hF _ (Classical.choose_spec hx)]
  · rw [fOf_none (fun z hz => hx ⟨z, hz⟩), fOf_none (fun z hz => hx ⟨z, (h z).2 hz⟩)]

theorem rotV_turn {a b c : Int} (h1 : a ≠ b) (h2 : b ≠ c) (h3 : c ≠ a) : rotV b c a = rotV a b c := by
  unfold rotV
  have : rotL b c a = rotL a b c := by
    unfold rotL
    repeat' split
    all_goals first | rfl | (exfalso; omega)
  rw [this]

/-- a triangle more -/
theorem fOf_put {T T' : Int → Int → Int → Prop} (hF' : Fn T') {a b c : Int} (h1 : a ≠ b) (h2 : b ≠ c) (h3 : c ≠ a) (h : ∀ x y z, T' x y z ↔ T x y z ∨ rots a b c x y z) (x y : Int) :
    upd (upd (upd (fOf T) a b (some (rotV a b c))) b c (some (rotV a b c))) c a (some (rotV a b c)) x y = fOf T' x y := by
  by_cases k3 : x = c ∧ y = a
  · obtain ⟨rfl, rfl⟩ := k3
    rw [upd_same, fOf_some hF' ((h _ _ b).2 (.inr (.inr (.inr ⟨rfl, rfl, rfl⟩)))), ← rotV_turn h1 h2 h3, ← rotV_turn h2 h3 h1]
  · rw [upd_other _ _ k3]
    by_cases k2 : x = b ∧ y = c
    · obtain ⟨rfl, rfl⟩ := k2
      rw [upd_same, fOf_some hF' ((h _ _ a).2 (.inr (.inr (.inl ⟨rfl, rfl, rfl⟩)))), ← rotV_turn h1 h2 h3]
    · rw [upd_other _ _ k2]
      by_cases k1 : x = a ∧ y = b
      · obtain ⟨rfl, rfl⟩ := k1
        rw [upd_same, fOf_some hF' ((h _ _ c).2 (.inr (.inl ⟨rfl, rfl, rfl⟩)))]
      · rw [upd_other _ _ k1]
        refine fOf_congr hF' (fun z => ?_)
        rw [h]
        constructor
        · exact .inl
        · rintro (r | r)
          · exact r
          · unfold rots at r; omega

/-- an edge less -/
theorem fOf_del {T T' : Int → Int → Int → Prop} (hF' : Fn T') {a b : Int} (h : ∀ x y z, T' x y z ↔ T x y z ∧ ¬ (x = a ∧ y = b)) (x y : Int) : upd (fOf T) a b none x y = fOf T' x y := by
  by_cases k : x = a ∧ y = b
  · obtain ⟨rfl, rfl⟩ := k
    rw [upd_same, fOf_none (fun z hz => ((h _ _ _).1 hz).2 ⟨rfl, rfl⟩)]
  · rw [upd_other _ _ k]
    refine fOf_congr hF' (fun z => ?_)
    rw [h]
    exact ⟨fun r => ⟨r, k⟩, fun r => r.1⟩

theorem MapIs.congr {P : Program} {K : TypeId} {w : World} {B n : Nat} {f g : Int → Int → Option Value} (h : MapIs P K w B n f) (e : ∀ a b, I64 a → I64 b → f a b = g a b) : MapIs P K w B n g := by
  obtain ⟨D, h, k⟩ := h
  exact ⟨D, h, fun a b ha hb z => by rw [← e a b ha hb]; exact k a b ha hb z⟩

/-- points by their numbers -/
def pOf (l : List Pt) (i : Int) : Pt := ptAt l i.toNat
theorem pOf_nat (l : List Pt) (i : Nat) : pOf l i = ptAt l i := rfl

theorem askS_sd (l : List Pt) (i j k : Nat) : askS l i j k = sg (sd (ptAt l i) (ptAt l j) (ptAt l k)) := rfl
theorem askC_cc (l : List Pt) (i j k m : Nat) : askC l i j k m = sg (sd (ptAt l i) (ptAt l j) (ptAt l k)) * sg (cc (ptAt l i) (ptAt l j) (ptAt l k) (ptAt l m)) := rfl
theorem sg_pos_iff (x : Int) : 0 < sg x ↔ 0 < x := by unfold sg; constructor <;> intro h <;> (repeat' split at *) <;> omega
theorem sg_one {x : Int} (h : 0 < x) : sg x = 1 := by unfold sg; rw [if_pos h]
theorem sg_zero_iff (x : Int) : sg x = 0 ↔ x = 0 := by unfold sg; constructor <;> intro h <;> (repeat' split at *) <;> omega

theorem nat_of {S : List Int} {l : List Pt} (hS : ∀ i ∈ S, 0 ≤ i ∧ i < l.length) {x : Int} (h : x ∈ S) : ∃ i : Nat, x = i ∧ i < l.length := by
  have := hS x h
  exact ⟨x.toNat, by omega, by omega⟩

theorem holds_tr {l : List Pt} {S : List Int} {a b c : Int} {Tr : Int → Int → Int → Prop} (NO : NetOf (pOf l) S a b c Tr) (hS : ∀ i ∈ S, 0 ≤ i ∧ i < l.length) (N Bp A H bb off cap n : Nat) (p : Nat) (w : World)
    (hp : p < l.length) (hpn : NearP (ptAt l p)) (hl : l.length ≤ 60) (hN : NetAt w N Bp A H) (hA : AskAt w Bp bb off cap l) (hn : AllNear l) (hm : MapIs Tryz.prog 165 w A n (fOf Tr)) {x y z : Int} (ht : Tr x y z) :
    Calls Tryz.prog 106 #[.pointer (some ⟨N, 0, none⟩), rotV x y z, iv p] w fun e w' =>
      e = .returned (.bool (decide (0 < kk (VV (pOf l) a b c x) (VV (pOf l) a b c y) (VV (pOf l) a b c z) (VV (pOf l) a b c p)))) ∧ Below w.heap.size w w' := by
  have Vp : VV (pOf l) a b c p = lift (ptAt l p) := VV_pos _ _ _ _ (by omega)
  have real : ∀ {x y z : Int}, Tr x y z → x ∈ S → y ∈ S → z ∈ S → Calls Tryz.prog 106 #[.pointer (some ⟨N, 0, none⟩), triV x y z, iv p] w fun e w' =>
      e = .returned (.bool (decide (0 < kk (VV (pOf l) a b c x) (VV (pOf l) a b c y) (VV (pOf l) a b c z) (VV (pOf l) a b c p)))) ∧ Below w.heap.size w w' := by
    intro x y z ht hx hy hz
    have hsd := NO.side ht hx hy hz
    rw [NO.vv hx, NO.vv hy, NO.vv hz, Vp, kk_lift]
    obtain ⟨i, rfl, hi⟩ := nat_of hS hx
    obtain ⟨j, rfl, hj⟩ := nat_of hS hy
    obtain ⟨k, rfl, hk⟩ := nat_of hS hz
    rw [pOf_nat, pOf_nat, pOf_nat] at *
    refine (holds_real N Bp A H bb off cap l i j k p w hi hj hk hp hl hN hA hn).mono fun e w' h => ?_
    refine ⟨?_, h.2⟩
    rw [h.1]
    have : decide (0 < askC l i j k p) = decide (0 < cc (ptAt l i) (ptAt l j) (ptAt l k) (ptAt l p)) := by
      rw [askC_cc, sg_one hsd, Int.one_mul]
      exact decide_eq_decide.2 (sg_pos_iff _)
    rw [this]
  have ghost : ∀ {x y : Int}, Tr x y (-1) → Calls Tryz.prog 106 #[.pointer (some ⟨N, 0, none⟩), triV (-1) x y, iv p] w fun e w' =>
      e = .returned (.bool (decide (0 < kk (VV (pOf l) a b c x) (VV (pOf l) a b c y) (VV (pOf l) a b c (-1)) (VV (pOf l) a b c p)))) ∧ Below w.heap.size w w' := by
    intro x y ht
    obtain ⟨hx, hy⟩ := NO.ghost_mem ht
    have hD := NO.pos ht
    obtain ⟨z, hz, ht2⟩ := NO.ghost_pair ht
    have hsd := NO.side ht2 hy hx hz
    have g := ghost_sign (NO.near x hx) (NO.near y hy) (NO.near a NO.ma) (NO.near b NO.mb) (NO.near c NO.mc) (q := ptAt l p) hpn
    rw [NO.vv hx, NO.vv hy, VV_neg] at hD ⊢
    rw [Vp]
    by_cases h0 : sd (pOf l x) (pOf l y) (ptAt l p) = 0
    · have hk := g.2.2 h0
      rw [hk]
      have hcc := cc_line (pOf l y) (pOf l x) (pOf l z) (ptAt l p)
      have s1 : sd (pOf l y) (pOf l x) (ptAt l p) = 0 := by have : sd (pOf l y) (pOf l x) (ptAt l p) = - sd (pOf l x) (pOf l y) (ptAt l p) := by { unfold sd; grind }; omega
      have s2 : dt (pOf l y) (pOf l x) (ptAt l p) = dt (pOf l x) (pOf l y) (ptAt l p) := dt_comm _ _ _
      rw [s1, s2, Int.zero_mul, Int.add_zero] at hcc
      obtain ⟨fv, hfv⟩ : ∃ fv, fOf Tr y x = some fv := ⟨_, fOf_some NO.fnT ht2⟩
      have hrot : fOf Tr y x = some (rotV y x z) := fOf_some NO.fnT ht2
      -- the turn that is laid down
      have turn : ∃ i j k : Int, rotV y x z = triV i j k ∧ Tr i j k ∧ i ∈ S ∧ j ∈ S ∧ k ∈ S ∧ 0 < sd (pOf l i) (pOf l j) (pOf l k) ∧ cc (pOf l i) (pOf l j) (pOf l k) (ptAt l p) = cc (pOf l y) (pOf l x) (pOf l z) (ptAt l p) := by
        have t2 := NO.rot ht2
        have t3 := NO.rot t2
        have r1 : ∀ u v w q : Pt, cc v w u q = cc u v w q := by intro u v w q; unfold cc; grind
        unfold rotV rotL
        split
        · exact ⟨y, x, z, rfl, ht2, hy, hx, hz, hsd, rfl⟩
        · split
          · exact ⟨x, z, y, rfl, t2, hx, hz, hy, NO.side t2 hx hz hy, r1 _ _ _ _⟩
          · exact ⟨z, y, x, rfl, t3, hz, hy, hx, NO.side t3 hz hy hx, by rw [← r1]⟩
      obtain ⟨i, j, k, e, t, hi, hj, hk', hijk, hcc'⟩ := turn
      rw [e] at hrot
      obtain ⟨u, rfl, hu⟩ := nat_of hS hx
      obtain ⟨v, rfl, hv⟩ := nat_of hS hy
      obtain ⟨i, rfl, hi2⟩ := nat_of hS hi
      obtain ⟨j, rfl, hj2⟩ := nat_of hS hj
      obtain ⟨k, rfl, hk''⟩ := nat_of hS hk'
      refine (holds_line N Bp A H bb off cap n l (fOf Tr) u v p i j k w hu hv hp hl hi2 hj2 hk'' hN hA hn ((sg_zero_iff _).2 h0) hm hrot).mono fun e w' h => ⟨?_, h.2⟩
      rw [h.1]
      have : decide (0 < askC l i j k p) = decide (0 < -(d3 (lift (pOf l u)) (lift (pOf l v)) (apex (pOf l a) (pOf l b) (pOf l c)) * dt (pOf l u) (pOf l v) (ptAt l p))) := by
        rw [askC_cc]
        rw [pOf_nat, pOf_nat, pOf_nat] at hijk hcc'
        rw [sg_one hijk, Int.one_mul]
        refine decide_eq_decide.2 ((sg_pos_iff _).trans ?_)
        rw [hcc', hcc]
        generalize sd (pOf l v) (pOf l u) (pOf l z) = s at *
        generalize d3 (lift (pOf l u)) (lift (pOf l v)) (apex (pOf l a) (pOf l b) (pOf l c)) = D at *
        generalize dt (pOf l u) (pOf l v) (ptAt l p) = t at *
        have n1 : -s * t = s * (-t) := by rw [Int.neg_mul, Int.mul_neg]
        have n2 : -(D * t) = D * (-t) := by rw [Int.mul_neg]
        rw [n1, n2]
        exact ⟨fun h => mpp hD (dpos hsd h), fun h => mpp hsd (dpos hD h)⟩
      rw [this]
    · obtain ⟨u, rfl, hu⟩ := nat_of hS hx
      obtain ⟨v, rfl, hv⟩ := nat_of hS hy
      refine (holds_side N Bp A H bb off cap l u v p w hu hv hp hl hN hA hn (fun e => h0 ((sg_zero_iff _).1 e))).mono fun e w' h => ⟨?_, h.2⟩
      rw [h.1]
      have : decide (0 < askS l u v p) = decide (0 < kk (lift (pOf l u)) (lift (pOf l v)) (apex (pOf l a) (pOf l b) (pOf l c)) (lift (ptAt l p))) := by
        rw [askS_sd]
        refine decide_eq_decide.2 ((sg_pos_iff _).trans ⟨fun h => g.1 h, fun h => ?_⟩)
        rcases Int.lt_or_le 0 (sd (pOf l u) (pOf l v) (ptAt l p)) with k | k
        · exact k
        · have := g.2.1 (by omega); omega
      rw [this]
  -- which of the three turns is laid down
  have t2 := NO.rot ht
  have t3 := NO.rot t2
  obtain ⟨n1, n2, n3⟩ := NO.ne3 ht
  have lx := NO.lab ht
  have ly := NO.lab t2
  have lz := NO.lab t3
  have nn := NO.nn
  have kr1 := kk_rot (VV (pOf l) a b c x) (VV (pOf l) a b c y) (VV (pOf l) a b c z) (VV (pOf l) a b c p)
  have kr2 := kk_rot (VV (pOf l) a b c y) (VV (pOf l) a b c z) (VV (pOf l) a b c x) (VV (pOf l) a b c p)
  rcases lx with rfl | hx
  · have hy := ly.resolve_left (fun e => n1 e.symm)
    have hz := lz.resolve_left n3
    have e : rotV (-1) y z = triV (-1) y z := by unfold rotV rotL; rw [if_pos (by have := nn y hy; have := nn z hz; omega)]
    rw [e, ← kr1]
    exact ghost t2
  · rcases ly with rfl | hy
    · have hz := lz.resolve_left (fun e => n2 e.symm)
      have e : rotV x (-1) z = triV (-1) z x := by
        unfold rotV rotL
        rw [if_neg (by have := nn x hx; omega), if_pos (by have := nn x hx; have := nn z hz; omega)]
      rw [e, ← kr1, ← kr2]
      exact ghost t3
    · rcases lz with rfl | hz
      · have e : rotV x y (-1) = triV (-1) x y := by
          unfold rotV rotL
          rw [if_neg (by have := nn x hx; omega), if_neg (by have := nn y hy; omega)]
        rw [e]
        exact ghost ht
      · unfold rotV rotL
        split
        · exact real ht hx hy hz
        · split
          · rw [← kr1]; exact real t2 hy hz hx
          · rw [← kr1, ← kr2]; exact real t3 hz hx hy
end Go.Proofs.YtgpapegpdfonpaaGreatDoor
