/-
  What the statement on triangles asks, of points and the triangles that are told.
  What the statement of the second stage asks of triangles: edges gone along, the rim.
-/
import Derived.Test.YtgpapegpdfonpaaGreatDoorJoinL
namespace Go.Proofs.YtgpapegpdfonpaaGreatDoor
set_option linter.unusedVariables false
set_option linter.unusedSimpArgs false

/-- does a triangle go along an edge of another one? -/
def nth3 (t : T3) (i : Nat) : Int := if i = 0 then t.1 else if i = 1 then t.2.1 else t.2.2
def alongB (s t : T3) : Bool := (List.range 3).any fun i => (List.range 3).any fun k => nth3 s i == nth3 t k && nth3 s ((i + 1) % 3) == nth3 t ((k + 1) % 3)
/-- does a point lie on an edge of the corners? -/
def onB (l : List Pt) (h : Nat → Pt) (m k : Nat) : Bool := (List.range m).any fun i => decide (sd (h i) (h ((i + 1) % m)) (ptAt l k) = 0)
def rimN (l : List Pt) (h : Nat → Pt) (m n : Nat) : Nat := ((List.range n).filter (onB l h m)).length
theorem rimN_succ (l : List Pt) (h : Nat → Pt) (m n : Nat) : rimN l h m (n + 1) = rimN l h m n + (if onB l h m n = true then 1 else 0) := by
  unfold rimN
  rw [List.range_succ, List.filter_append, List.length_append]
  congr 1
  by_cases k : onB l h m n = true <;> simp [k]
theorem rimN_le (l : List Pt) (h : Nat → Pt) (m n : Nat) : rimN l h m n ≤ n := by
  unfold rimN
  have := List.length_filter_le (onB l h m) (List.range n)
  simpa using this

structure FillOk (l : List Pt) (h : Nat → Pt) (m : Nat) (ts : List T3) : Prop where
  nz : fan h m ≠ 0
  cnt : ts.length + 2 + rimN l h m l.length = 2 * l.length
  tri : ∀ t ∈ ts, (0 ≤ t.1 ∧ t.1 < t.2.1 ∧ t.1 < t.2.2 ∧ t.2.1 < l.length ∧ t.2.2 < l.length) ∧ 0 < sd (pOf l t.1) (pOf l t.2.1) (pOf l t.2.2) ∧ ∀ d, d < l.length → cc (pOf l t.1) (pOf l t.2.1) (pOf l t.2.2) (ptAt l d) ≤ 0
  alg : ts.Pairwise (fun s t => alongB s t = false)
  srt : ts.Pairwise t3lt
  used : ∀ k : Nat, k < l.length → ∃ t ∈ ts, t.1 = k ∨ t.2.1 = k ∨ t.2.2 = k
  area : lsum (fun t : T3 => sd (pOf l t.1) (pOf l t.2.1) (pOf l t.2.2)) ts = fan h m

theorem col3 {A B u v q : Pt} (h : A ≠ B) (hu : sd A B u = 0) (hv : sd A B v = 0) (hq : sd A B q = 0) : sd u v q = 0 := by
  have f := sd_line A B u v q
  rw [hu, hv, hq] at f
  simp only [Int.sub_self, Int.mul_zero, Int.zero_mul] at f
  exact dz (len2_pos h) f

theorem flat_fan {l : List Pt} {is c : List Nat} (hio : InOrder l is) (hnd : l.Nodup) (hall : AllOn l is) (A : Arr l c) : fan (cp l c) c.length = 0 := by
  rcases Nat.lt_or_ge 2 c.length with h | h
  · exfalso
    have ht := A.turn h 0 (by omega)
    have hl : 3 ≤ is.length := by have := A.le; rw [hio.len]; omega
    have h01 : ptAt l (is.getD 0 0) ≠ ptAt l (is.getD 1 0) := fun e => by
      have := ptAt_inj hnd (hio.lt _ (mem_getD (by omega))) (hio.lt _ (mem_getD (by omega))) e
      have := getD_inj hio.nodup (show 0 < is.length by omega) (show 1 < is.length by omega) this
      omega
    have on : ∀ k, k < l.length → sd (ptAt l (is.getD 0 0)) (ptAt l (is.getD 1 0)) (ptAt l k) = 0 := by
      intro k hk
      have hm : k ∈ is := hio.perm.mem_iff.2 (List.mem_range.2 hk)
      obtain ⟨j, hj, e⟩ := List.getElem_of_mem hm
      have e' : is.getD j 0 = k := by simp [hj, e]
      rcases Nat.lt_or_ge j 2 with h2 | h2
      · have : j = 0 ∨ j = 1 := by omega
        rcases this with rfl | rfl
        · rw [← e']; exact sd_A _ _
        · rw [← e']; exact sd_B _ _
      · have := hall j h2 hj
        rw [e'] at this
        exact (sg_zero_iff _).1 this
    have c0 := on _ (A.lt 0 (by omega))
    have c1 := on _ (A.lt ((0 + 1) % c.length) (Nat.mod_lt _ (by omega)))
    have c2 := on _ (A.lt ((0 + 2) % c.length) (Nat.mod_lt _ (by omega)))
    have := col3 h01 c0 c1 c2
    unfold cp at ht
    omega
  · exact fan_le _ _ h

theorem nth3_0 (t : T3) : nth3 t 0 = t.1 := rfl
theorem nth3_1 (t : T3) : nth3 t 1 = t.2.1 := rfl
theorem nth3_2 (t : T3) : nth3 t 2 = t.2.2 := rfl
theorem along_eq {Tr : Int → Int → Int → Prop} (rot : ∀ {x y z}, Tr x y z → Tr y z x) (fn : ∀ {x y z w}, Tr x y z → Tr x y w → z = w) {s t : T3} (hs : Tr s.1 s.2.1 s.2.2) (ht : Tr t.1 t.2.1 t.2.2)
    (a : s.1 < s.2.1) (b : s.1 < s.2.2) (a' : t.1 < t.2.1) (b' : t.1 < t.2.2) (hal : alongB s t = true) : s = t := by
  obtain ⟨x, y, z⟩ := s
  obtain ⟨x', y', z'⟩ := t
  dsimp only at hs ht a b a' b'
  have s2 := rot hs
  have s3 := rot s2
  have t2 := rot ht
  have t3 := rot t2
  unfold alongB at hal
  rw [List.any_eq_true] at hal
  obtain ⟨i, hi, hal⟩ := hal
  rw [List.any_eq_true] at hal
  obtain ⟨k, hk, hal⟩ := hal
  have hi := List.mem_range.1 hi
  have hk := List.mem_range.1 hk
  rw [Bool.and_eq_true, beq_iff_eq, beq_iff_eq] at hal
  obtain ⟨e1, e2⟩ := hal
  have fin : ∀ {a b c a' b' c' : Int}, Tr a b c → Tr a' b' c' → a = a' → b = b' → c = c' := fun h h' e e' => by subst e e'; exact fn h h'
  have hi3 : i = 0 ∨ i = 1 ∨ i = 2 := by omega
  have hk3 : k = 0 ∨ k = 1 ∨ k = 2 := by omega
  rcases hi3 with rfl | rfl | rfl <;> rcases hk3 with rfl | rfl | rfl <;> simp only [Nat.zero_add, Nat.reduceAdd, Nat.reduceMod, nth3_0, nth3_1, nth3_2] at e1 e2
  · have e3 := fin hs ht e1 e2; rw [e1, e2, e3]
  · have e3 := fin hs t2 e1 e2; omega
  · have e3 := fin hs t3 e1 e2; omega
  · have e3 := fin s2 ht e1 e2; omega
  · have e3 := fin s2 t2 e1 e2; rw [e1, e2, e3]
  · have e3 := fin s2 t3 e1 e2; omega
  · have e3 := fin s3 ht e1 e2; omega
  · have e3 := fin s3 t2 e1 e2; omega
  · have e3 := fin s3 t3 e1 e2; rw [e1, e2, e3]

section
open Classical
set_option maxHeartbeats 1000000 in
theorem fill_ok {l : List Pt} {is c : List Nat} {t p q r : Nat} {ts : List T3} (hio : InOrder l is) (hnd : l.Nodup) (hn : AllNear l) (A : Arr l c) (hcn : c.Nodup) (BS : Base l is t p q r)
    (hm : ∀ x y z, (x, y, z) ∈ ts ↔ trAt l is t p q r is.length x y z ∧ 0 ≤ x ∧ x < y ∧ x < z) (hp : ts.Pairwise t3lt) : FillOk l (cp l c) c.length ts := by
  obtain ⟨N, hSn, hSr⟩ := net_at hio hnd hn BS is.length (Nat.le_refl _)
  have hS := mem_all hio BS
  generalize sAt is t p q r is.length = S at *
  generalize trAt l is t p q r is.length = Tr at *
  have hbase := N.base
  have lt := hio.lt
  obtain ⟨mp, mq, mr⟩ := BS.mems
  have hl3 : 3 ≤ is.length := by have := BS.off.1; have := BS.off.2.1; omega
  have hl3' : 3 ≤ l.length := by rw [← hio.len]; exact hl3
  have hc2 : 1 < c.length := A.two (by omega)
  have cinj : ∀ i j, i < c.length → j < c.length → cp l c i = cp l c j → i = j := by
    intro i j hi hj e
    have := ptAt_inj hnd (A.lt i hi) (A.lt j hj) e
    exact getD_inj hcn hi hj this
  have hc3 : 3 ≤ c.length := by
    rcases Nat.lt_or_ge 2 c.length with h | h
    · exact h
    · exfalso
      have e2 : c.length = 2 := by omega
      have hne : cp l c 0 ≠ cp l c 1 := fun e => by have := cinj 0 1 (by omega) (by omega) e; omega
      have z : ∀ k, k < l.length → sd (cp l c 0) (cp l c 1) (ptAt l k) = 0 := by
        intro k hk
        have h0 := (A.edge hc2 0 (by omega) k hk).1
        have h1 := (A.edge hc2 1 (by omega) k hk).1
        rw [e2] at h0 h1
        have e : sd (cp l c 1) (cp l c 0) (ptAt l k) = - sd (cp l c 0) (cp l c 1) (ptAt l k) := by unfold sd; grind
        simp only [Nat.zero_add, Nat.reduceAdd, Nat.reduceMod] at h0 h1
        omega
      have := col3 hne (z _ (lt _ mp)) (z _ (lt _ mq)) (z _ (lt _ mr))
      have := BS.sd
      omega
  have Y : Poly (pOf l) S (cp l c) c.length := by
    refine ⟨hc3, ?_, ?_, fun i hi => A.turn (by omega) i hi, cinj⟩
    · intro i hi
      have := A.lt i hi
      exact ⟨(c.getD i 0 : Nat), (hS _).2 ⟨by omega, by omega⟩, rfl⟩
    · intro i hi x hx
      have hx' := (hS x).1 hx
      exact A.edge hc2 i hi x.toNat (by omega)
  have htn : ts.Nodup := hp.imp (fun h e => by subst e; exact t3lt_irrefl _ h)
  generalize hGe : (pairs S).filter (fun q => decide (Tr q.1 q.2 (-1))) = G
  have hG : G.Nodup := by rw [← hGe]; exact (nodup_pairs hSn).filter _
  have hGm : ∀ x y, (x, y) ∈ G ↔ Tr x y (-1) := by
    intro x y
    rw [← hGe, List.mem_filter, decide_eq_true_eq, mem_pairs]
    exact ⟨fun h => h.2, fun h => ⟨N.ghost_mem h, h⟩⟩
  have hcount := N.count hSn ts htn hm G hG hGm
  have hSl : S.length = l.length := by
    have : S.length = (List.range l.length).length := by
      refine len_bij Int.toNat hSn List.nodup_range ?_ ?_ ?_
      · intro x hx y hy e
        have := (hS x).1 hx; have := (hS y).1 hy; omega
      · intro x hx
        have := (hS x).1 hx
        exact List.mem_range.2 (by omega)
      · intro k hk
        have := List.mem_range.1 hk
        exact ⟨(k : Int), (hS _).2 ⟨by omega, by omega⟩, by simp⟩
    simpa using this
  have hrim : G.length = rimN l (cp l c) c.length l.length := by
    unfold rimN
    refine len_bij (fun q : Int × Int => q.1.toNat) hG (List.nodup_range.filter _) ?_ ?_ ?_
    · rintro ⟨x, y⟩ h ⟨x', y'⟩ h' e
      have k := (hGm x y).1 h
      have k' := (hGm x' y').1 h'
      have m1 := (hS x).1 (N.ghost_mem k).1
      have m2 := (hS x').1 (N.ghost_mem k').1
      dsimp only at e
      have ex : x = x' := by omega
      subst ex
      rw [N.fn (N.rot (N.rot k)) (N.rot (N.rot k'))]
    · rintro ⟨x, y⟩ h
      have k := (hGm x y).1 h
      have m1 := (N.ghost_mem k).1
      have m1' := (hS x).1 m1
      obtain ⟨i, hi, h0⟩ := (N.rim_iff Y m1).2 ⟨y, k⟩
      rw [List.mem_filter]
      refine ⟨List.mem_range.2 (by omega), ?_⟩
      unfold onB
      rw [List.any_eq_true]
      exact ⟨i, List.mem_range.2 hi, decide_eq_true h0⟩
    · intro k hk
      rw [List.mem_filter] at hk
      have hkl := List.mem_range.1 hk.1
      have hk2 := hk.2
      unfold onB at hk2
      rw [List.any_eq_true] at hk2
      obtain ⟨i, hi, h0⟩ := hk2
      have mk : (k : Int) ∈ S := (hS _).2 ⟨by omega, by omega⟩
      obtain ⟨y, hy⟩ := (N.rim_iff Y mk).1 ⟨i, List.mem_range.1 hi, of_decide_eq_true h0⟩
      exact ⟨((k : Int), y), (hGm _ _).2 hy, by simp⟩
  have htT : ∀ t ∈ ts, Tr t.1 t.2.1 t.2.2 ∧ t.1 ∈ S ∧ t.2.1 ∈ S ∧ t.2.2 ∈ S ∧ 0 ≤ t.1 ∧ t.1 < t.2.1 ∧ t.1 < t.2.2 := by
    rintro ⟨x, y, z⟩ h
    obtain ⟨h1, h2, h3, h4⟩ := (hm x y z).1 h
    exact ⟨h1, N.mem h1 h2, N.mem (N.rot h1) (show 0 ≤ y by omega), N.mem (N.rot (N.rot h1)) (show 0 ≤ z by omega), h2, h3, h4⟩
  refine ⟨?_, ?_, ?_, ?_, hp, ?_, ?_⟩
  · -- the corners have an area
    have e := N.area_ts hSn ts htn hm G hG hGm
    rw [N.area_G hSn Y G hG hGm] at e
    rw [← e]
    have hpos : ∀ L : List T3, (∀ t ∈ L, t ∈ ts) → L ≠ [] → 0 < lsum (fun t : T3 => sd (pOf l t.1) (pOf l t.2.1) (pOf l t.2.2)) L := by
      intro L
      induction L with
      | nil => intro _ h; exact absurd rfl h
      | cons a L ih =>
        intro h _
        have ha := htT a (h a (by simp))
        have h1 := N.side ha.1 ha.2.1 ha.2.2.1 ha.2.2.2.1
        simp only [lsum]
        by_cases hL : L = []
        · subst hL; simp only [lsum]; omega
        · have := ih (fun t ht => h t (by simp [ht])) hL; omega
    have hne : ts ≠ [] := by
      intro e0
      obtain ⟨y, z, hh⟩ := N.used N.ma
      have hgh : ∀ {x y z}, Tr x y z → x ∈ S → y ∈ S → z ∈ S → False := by
        intro x y z h hx hy hz
        have t2 := N.rot h
        have t3 := N.rot t2
        obtain ⟨n1, n2, n3⟩ := N.ne3 h
        have x0 := N.nn x hx; have y0 := N.nn y hy; have z0 := N.nn z hz
        have none : ∀ a b c, ¬ (Tr a b c ∧ 0 ≤ a ∧ a < b ∧ a < c) := fun a b c k => by have := (hm a b c).2 k; rw [e0] at this; simp at this
        rcases Int.lt_or_le x y with h1 | h1
        · rcases Int.lt_or_le x z with h2 | h2
          · exact none x y z ⟨h, x0, h1, h2⟩
          · exact none z x y ⟨t3, z0, by omega, by omega⟩
        · rcases Int.lt_or_le y z with h2 | h2
          · exact none y z x ⟨t2, y0, h2, by omega⟩
          · exact none z x y ⟨t3, z0, by omega, by omega⟩
      obtain ⟨hy, hz⟩ | h : (y ∈ S ∧ z ∈ S) ∨ (y = -1 ∨ z = -1) := by
        rcases N.lab (N.rot hh) with e | e
        · exact .inr (.inl e)
        · rcases N.lab (N.rot (N.rot hh)) with e' | e'
          · exact .inr (.inr e')
          · exact .inl ⟨e, e'⟩
      · exact hgh hh N.ma hy hz
      · rcases h with rfl | rfl
        · have g := N.rot (N.rot hh)
          obtain ⟨w, hw, hr⟩ := N.ghost_pair g
          exact hgh hr (N.ghost_mem g).2 (N.ghost_mem g).1 hw
        · obtain ⟨w, hw, hr⟩ := N.ghost_pair hh
          exact hgh hr (N.ghost_mem hh).2 (N.ghost_mem hh).1 hw
    exact Int.ne_of_gt (hpos ts (fun t h => h) hne)
  · rw [hSl] at hcount; rw [← hrim]; omega
  · intro t ht
    obtain ⟨h1, h2, h3, h4, h5, h6, h7⟩ := htT t ht
    have a2 := (hS _).1 h3
    have a3 := (hS _).1 h4
    refine ⟨⟨h5, h6, h7, a2.2, a3.2⟩, N.side h1 h2 h3 h4, fun d hd => ?_⟩
    have hc := N.circ h1 h2 h3 h4 ((hS (d : Int)).2 ⟨by omega, by omega⟩)
    have ep : pOf l (d : Int) = ptAt l d := by unfold pOf; rw [Int.toNat_natCast]
    rw [ep] at hc
    exact hc
  · -- no edge is gone along twice
    have key : ∀ s ∈ ts, ∀ t ∈ ts, alongB s t = true → s = t := by
      intro s hs t ht hal
      have S1 := htT _ hs
      have T1 := htT _ ht
      exact along_eq (Tr := Tr) (s := s) (t := t) N.rot N.fn S1.1 T1.1 S1.2.2.2.2.2.1 S1.2.2.2.2.2.2 T1.2.2.2.2.2.1 T1.2.2.2.2.2.2 hal
    refine List.Pairwise.imp_of_mem ?_ hp
    intro s t hs ht hlt
    cases hal : alongB s t with
    | false => rfl
    | true => have := key s hs t ht hal; subst this; exact absurd hlt (t3lt_irrefl _)
  · -- all points are corners
    intro k hk
    have mk : (k : Int) ∈ S := (hS _).2 ⟨by omega, by omega⟩
    have fin : ∀ {x y z}, Tr x y z → x ∈ S → y ∈ S → z ∈ S → (x = k ∨ y = k ∨ z = k) → ∃ t ∈ ts, t.1 = k ∨ t.2.1 = k ∨ t.2.2 = k := by
      intro x y z h hx hy hz hk
      have t2 := N.rot h
      have t3 := N.rot t2
      obtain ⟨n1, n2, n3⟩ := N.ne3 h
      have x0 := N.nn x hx; have y0 := N.nn y hy; have z0 := N.nn z hz
      rcases Int.lt_or_le x y with h1 | h1
      · rcases Int.lt_or_le x z with h2 | h2
        · exact ⟨(x, y, z), (hm _ _ _).2 ⟨h, x0, h1, h2⟩, hk⟩
        · exact ⟨(z, x, y), (hm _ _ _).2 ⟨t3, z0, by omega, by omega⟩, by dsimp only; omega⟩
      · rcases Int.lt_or_le y z with h2 | h2
        · exact ⟨(y, z, x), (hm _ _ _).2 ⟨t2, y0, h2, by omega⟩, by dsimp only; omega⟩
        · exact ⟨(z, x, y), (hm _ _ _).2 ⟨t3, z0, by omega, by omega⟩, by dsimp only; omega⟩
    obtain ⟨y, z, hh⟩ := N.used mk
    rcases N.lab (N.rot hh) with e | hy
    · subst e
      have g := N.rot (N.rot hh)
      obtain ⟨w, hw, hr⟩ := N.ghost_pair g
      exact fin hr (N.ghost_mem g).2 (N.ghost_mem g).1 hw (.inl rfl)
    · rcases N.lab (N.rot (N.rot hh)) with e | hz
      · subst e
        obtain ⟨w, hw, hr⟩ := N.ghost_pair hh
        exact fin hr (N.ghost_mem hh).2 (N.ghost_mem hh).1 hw (.inr (.inl rfl))
      · exact fin hh mk hy hz (.inl rfl)
  · rw [N.area_ts hSn ts htn hm G hG hGm, N.area_G hSn Y G hG hGm]
end
end Go.Proofs.YtgpapegpdfonpaaGreatDoor

namespace Go.Proofs.YtgpapegpdfonpaaGreatDoor
set_option linter.unusedVariables false
set_option linter.unusedSimpArgs false

/-- b is the next one on the rim behind a -/
def rimP (l : List Pt) (a b : Nat) : Prop := a ≠ b ∧ ∀ j, j < l.length → j ≠ a → j ≠ b → 0 ≤ sd (ptAt l a) (ptAt l b) (ptAt l j) ∧ (sd (ptAt l a) (ptAt l b) (ptAt l j) = 0 → 0 ≤ dt (ptAt l a) (ptAt l b) (ptAt l j))
/-- a triangle goes from a to b -/
def goneP (ts : List T3) (a b : Int) : Prop := ∃ t ∈ ts, ∃ k, k < 3 ∧ nth3 t k = a ∧ nth3 t ((k + 1) % 3) = b

structure IsOk (l : List Pt) (ts : List T3) : Prop where
  off : ∃ i, 2 ≤ i ∧ i < l.length ∧ sd (ptAt l 0) (ptAt l 1) (ptAt l i) ≠ 0
  tri : ∀ t ∈ ts, (0 ≤ t.1 ∧ t.1 < t.2.1 ∧ t.1 < t.2.2 ∧ t.2.1 < l.length ∧ t.2.2 < l.length) ∧ 0 < sd (pOf l t.1) (pOf l t.2.1) (pOf l t.2.2) ∧ ∀ d, d < l.length → cc (pOf l t.1) (pOf l t.2.1) (pOf l t.2.2) (ptAt l d) ≤ 0
  alg : ts.Pairwise (fun s t => alongB s t = false)
  srt : ts.Pairwise t3lt
  uniq : ∀ a b c, a < l.length → b < l.length → c < l.length → rimP l a b → rimP l a c → b = c
  rim : ∀ a b : Nat, a < l.length → b < l.length → rimP l a b → goneP ts a b ∧ ¬ goneP ts b a
  mate : ∀ a b : Nat, a < l.length → b < l.length → ¬ rimP l a b → ¬ rimP l b a → (goneP ts a b ↔ goneP ts b a)

theorem line_on {l : List Pt} {is : List Nat} (hio : InOrder l is) (hnd : l.Nodup) (hall : AllOn l is) (hl : 2 ≤ l.length) {a b c : Nat} (ha : a < l.length) (hb : b < l.length) (hc : c < l.length) : sd (ptAt l a) (ptAt l b) (ptAt l c) = 0 := by
  have hlen := hio.len
  have h01 : ptAt l (is.getD 0 0) ≠ ptAt l (is.getD 1 0) := fun e => by
    have := ptAt_inj hnd (hio.lt _ (mem_getD (by omega))) (hio.lt _ (mem_getD (by omega))) e
    have := getD_inj hio.nodup (show 0 < is.length by omega) (show 1 < is.length by omega) this
    omega
  have on : ∀ k, k < l.length → sd (ptAt l (is.getD 0 0)) (ptAt l (is.getD 1 0)) (ptAt l k) = 0 := by
    intro k hk
    have hm : k ∈ is := hio.perm.mem_iff.2 (List.mem_range.2 hk)
    obtain ⟨j, hj, e⟩ := List.getElem_of_mem hm
    have e' : is.getD j 0 = k := by simp [hj, e]
    rcases Nat.lt_or_ge j 2 with h2 | h2
    · have : j = 0 ∨ j = 1 := by omega
      rcases this with rfl | rfl
      · rw [← e']; exact sd_A _ _
      · rw [← e']; exact sd_B _ _
    · have := hall j h2 hj
      rw [e'] at this
      exact (sg_zero_iff _).1 this
  exact col3 h01 (on a ha) (on b hb) (on c hc)

theorem is_ok {l : List Pt} {is : List Nat} {t p q r : Nat} {ts : List T3} (hio : InOrder l is) (hnd : l.Nodup) (hn : AllNear l) (BS : Base l is t p q r)
    (hm : ∀ x y z, (x, y, z) ∈ ts ↔ trAt l is t p q r is.length x y z ∧ 0 ≤ x ∧ x < y ∧ x < z) (hp : ts.Pairwise t3lt) : IsOk l ts := by
  have F := fill_ok hio hnd hn (arr_of hio hnd) (cornersN_nodup hio hnd) BS hm hp
  obtain ⟨N, hSn, hSr⟩ := net_at hio hnd hn BS is.length (Nat.le_refl _)
  have hS := mem_all hio BS
  have hbs := BS.sd
  obtain ⟨mp, mq, mr⟩ := BS.mems
  have lp := hio.lt _ mp
  have lq := hio.lt _ mq
  have lr := hio.lt _ mr
  have hl3 : 3 ≤ l.length := by have := BS.off.1; have := BS.off.2.1; have := hio.len; omega
  clear BS
  generalize sAt is t p q r is.length = S at *
  generalize trAt l is t p q r is.length = Tr at *
  have pe : ∀ k : Nat, pOf l (k : Int) = ptAt l k := fun k => by unfold pOf; rw [Int.toNat_natCast]
  have mS : ∀ k : Nat, k < l.length → (k : Int) ∈ S := fun k hk => (hS _).2 ⟨by omega, by omega⟩
  -- the rim is the net's
  have rimT : ∀ a b : Nat, a < l.length → b < l.length → (rimP l a b ↔ Tr b a (-1)) := by
    intro a b ha hb
    constructor
    · intro h
      refine N.of_bnd ⟨mS a ha, mS b hb, by have := h.1; omega, fun x hx => ?_⟩
      have hx' := (hS x).1 hx
      obtain ⟨j, rfl⟩ : ∃ j : Nat, x = j := ⟨x.toNat, by omega⟩
      rw [pe, pe, pe]
      by_cases h1 : j = a
      · subst h1
        have e1 : sd (ptAt l j) (ptAt l b) (ptAt l j) = 0 := sd_A _ _
        have e2 : dt (ptAt l j) (ptAt l b) (ptAt l j) = 0 := by unfold dt; grind
        rw [e1, e2]; exact ⟨Int.le_refl _, fun _ => Int.le_refl _⟩
      · by_cases h2 : j = b
        · subst h2
          have e1 : sd (ptAt l a) (ptAt l j) (ptAt l j) = 0 := sd_B _ _
          have e2 : dt (ptAt l a) (ptAt l j) (ptAt l j) = 0 := by unfold dt; grind
          rw [e1, e2]; exact ⟨Int.le_refl _, fun _ => Int.le_refl _⟩
        · exact h.2 j (by omega) h1 h2
    · intro h
      obtain ⟨_, _, hne, hall⟩ := N.bnd_of h
      refine ⟨fun e => hne (by rw [e]), fun j hj _ _ => ?_⟩
      have := hall j (mS j hj)
      rw [pe, pe, pe] at this
      exact this
  have goneT : ∀ a b : Nat, a < l.length → b < l.length → (goneP ts a b ↔ ∃ z, 0 ≤ z ∧ Tr a b z) := by
    intro a b ha hb
    constructor
    · rintro ⟨⟨x, y, z⟩, ht, k, hk, e1, e2⟩
      obtain ⟨h1, h2, h3, h4⟩ := (hm x y z).1 ht
      have hk3 : k = 0 ∨ k = 1 ∨ k = 2 := by omega
      rcases hk3 with rfl | rfl | rfl <;> simp only [Nat.zero_add, Nat.reduceAdd, Nat.reduceMod, nth3_0, nth3_1, nth3_2] at e1 e2
      · exact ⟨z, by omega, by rw [← e1, ← e2]; exact h1⟩
      · exact ⟨x, by omega, by rw [← e1, ← e2]; exact N.rot h1⟩
      · exact ⟨y, by omega, by rw [← e1, ← e2]; exact N.rot (N.rot h1)⟩
    · rintro ⟨z, hz, h⟩
      have t2 := N.rot h
      have t3 := N.rot t2
      obtain ⟨n1, n2, n3⟩ := N.ne3 h
      rcases Int.lt_or_le (a : Int) (b : Int) with h1 | h1
      · rcases Int.lt_or_le (a : Int) z with h2 | h2
        · exact ⟨(a, b, z), (hm _ _ _).2 ⟨h, by omega, h1, h2⟩, 0, by omega, rfl, rfl⟩
        · exact ⟨(z, a, b), (hm _ _ _).2 ⟨t3, hz, by omega, by omega⟩, 1, by omega, rfl, rfl⟩
      · rcases Int.lt_or_le (b : Int) z with h2 | h2
        · exact ⟨(b, z, a), (hm _ _ _).2 ⟨t2, by omega, h2, by omega⟩, 2, by omega, rfl, rfl⟩
        · exact ⟨(z, a, b), (hm _ _ _).2 ⟨t3, hz, by omega, by omega⟩, 1, by omega, rfl, rfl⟩
  have back : ∀ a b : Nat, a < l.length → b < l.length → ¬ rimP l a b → goneP ts a b → goneP ts b a := by
    intro a b ha hb hr hg
    obtain ⟨z, hz, h⟩ := (goneT a b ha hb).1 hg
    obtain ⟨w, hw⟩ := N.pair h
    refine (goneT b a hb ha).2 ⟨w, ?_, hw⟩
    rcases N.lab (N.rot (N.rot hw)) with e | e
    · subst e
      exact absurd ((rimT a b ha hb).2 hw) hr
    · exact N.nn _ e
  refine ⟨?_, F.tri, F.alg, F.srt, ?_, ?_, ?_⟩
  · refine Classical.byContradiction fun hno => ?_
    have on : ∀ k, k < l.length → sd (ptAt l 0) (ptAt l 1) (ptAt l k) = 0 := by
      intro k hk
      refine Classical.byContradiction fun h => ?_
      rcases Nat.lt_or_ge k 2 with h2 | h2
      · have : k = 0 ∨ k = 1 := by omega
        rcases this with rfl | rfl
        · exact h (sd_A _ _)
        · exact h (sd_B _ _)
      · exact hno ⟨k, h2, hk, h⟩
    have h01 : ptAt l 0 ≠ ptAt l 1 := fun e => by have := ptAt_inj hnd (show 0 < l.length by omega) (show 1 < l.length by omega) e; omega
    have := col3 h01 (on _ lp) (on _ lq) (on _ lr)
    omega
  · intro a b c ha hb hc h1 h2
    have k1 := N.rot ((rimT a b ha hb).1 h1)
    have k2 := N.rot ((rimT a c ha hc).1 h2)
    have := N.fn k1 k2
    omega
  · intro a b ha hb h
    have g := (rimT a b ha hb).1 h
    obtain ⟨z, hz, hr⟩ := N.ghost_pair g
    refine ⟨(goneT a b ha hb).2 ⟨z, N.nn _ hz, hr⟩, fun hg => ?_⟩
    obtain ⟨z', hz', h'⟩ := (goneT b a hb ha).1 hg
    have := N.fn g h'
    omega
  · intro a b ha hb h1 h2
    exact ⟨back a b ha hb h1, back b a hb ha h2⟩
end Go.Proofs.YtgpapegpdfonpaaGreatDoor
