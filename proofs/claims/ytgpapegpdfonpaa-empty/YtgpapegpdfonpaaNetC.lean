/-
  A net of triangles, and a point that comes: the triangles below whose planes it lies go, and it is joined to the rim of the hole.
-/
import Derived.Test.YtgpapegpdfonpaaNetB
namespace Go.Proofs.Ytgpapegpdfonpaa
set_option linter.unusedVariables false
set_option linter.unusedSimpArgs false

structure Net (V : Int → Vec) (vs : List Int) (Tr : Int → Int → Int → Prop) : Prop extends Shut V vs Tr where
  fn : ∀ {a b c d}, Tr a b c → Tr a b d → c = d
  out : ∀ {a b c}, Tr a b c → ∀ q ∈ vs, kk (V a) (V b) (V c) (V q) ≤ 0
  ncr : ∀ {a b x c d y}, Tr a b x → Tr c d y → ¬ Cross (V a) (V b) (V c) (V d)
  ne : ∃ a b c, Tr a b c

/-- each point can be told from all others -/
def Sep (V : Int → Vec) (us : List Int) : Prop := ∀ a ∈ us, (V a).w ≠ 0 ∧ ∃ l : Vec, 0 < l.z ∧ dot l (V a) = 0 ∧ ∀ b ∈ us, b ≠ a → 0 < dot l (V b)

theorem len_le {α : Type} : ∀ (H S : List α), H.Nodup → (∀ p ∈ H, p ∈ S) → H.length ≤ S.length := by
  classical
  intro H
  induction H with
  | nil => intro S _ _; simp
  | cons a H ih =>
    intro S hn hs
    have ha : a ∈ S := hs a (by simp)
    have hn' := List.nodup_cons.1 hn
    have := ih (S.erase a) hn'.2 (fun p hp => by
      have hne : p ≠ a := fun e => hn'.1 (e ▸ hp)
      exact (List.mem_erase_of_ne hne).2 (hs p (by simp [hp])))
    rw [List.length_erase_of_mem ha] at this
    have hpos : 0 < S.length := List.length_pos_of_mem ha
    simp only [List.length_cons]
    omega

theorem nodup_map_on {α β : Type} (f : α → β) : ∀ (L : List α), L.Nodup → (∀ a ∈ L, ∀ b ∈ L, f a = f b → a = b) → (L.map f).Nodup
  | [], _, _ => by simp
  | a :: L, h, hi => by
    rw [List.map_cons, List.nodup_cons]
    have h' := List.nodup_cons.1 h
    refine ⟨fun hm => ?_, nodup_map_on f L h'.2 (fun x hx y hy => hi x (by simp [hx]) y (by simp [hy]))⟩
    obtain ⟨b, hb, e⟩ := List.mem_map.1 hm
    have := hi b (by simp [hb]) a (by simp) e
    subst this
    exact h'.1 hb

section
variable (V : Int → Vec) (Tr : Int → Int → Int → Prop) (p : Int)
def Rim (a b : Int) : Prop := ∃ c d, Tr a b c ∧ 0 < kk (V a) (V b) (V c) (V p) ∧ Tr b a d ∧ kk (V b) (V a) (V d) (V p) ≤ 0
def addTr (a b c : Int) : Prop := (Tr a b c ∧ kk (V a) (V b) (V c) (V p) ≤ 0) ∨ (Rim V Tr p a b ∧ c = p) ∨ (Rim V Tr p b c ∧ a = p) ∨ (Rim V Tr p c a ∧ b = p)
end

section
variable {V : Int → Vec} {Tr : Int → Int → Int → Prop} {p : Int} {vs : List Int}

theorem Net.rim_pos (N : Net V vs Tr) {a b : Int} (h : Rim V Tr p a b) : 0 < d3 (V a) (V b) (V p) := by
  obtain ⟨c, d, h1, h2, h3, h4⟩ := h
  rcases Int.lt_or_le 0 (d3 (V a) (V b) (V p)) with k | k
  · exact k
  · have := edge_over (N.pos h1) (N.pos h3) (N.out h3 c (N.mem (N.rot (N.rot h1)))) k h2
    omega

theorem Net.rim_in_uniq (N : Net V vs Tr) (sep : Sep V vs) {a a' b : Int} (h : Rim V Tr p a b) (h' : Rim V Tr p a' b) : a = a' := by
  have hp := N.rim_pos h
  have hp' := N.rim_pos h'
  obtain ⟨c, y, h1, h2, h3, h4⟩ := h
  obtain ⟨c', y', h1', h2', h3', h4'⟩ := h'
  have ma := N.mem h1
  have ma' := N.mem h1'
  have mb := N.mem h3
  refine Classical.byContradiction fun hne => ?_
  have hab : a ≠ b := by intro e; subst e; have := N.pos h1; rw [d3_aab] at this; omega
  have hab' : a' ≠ b := by intro e; subst e; have := N.pos h1'; rw [d3_aab] at this; omega
  obtain ⟨la, _, la0, la1⟩ := (sep a ma).2
  obtain ⟨la', _, la0', la1'⟩ := (sep a' ma').2
  rcases Int.lt_or_le (d3 (V b) (V a) (V a')) 0 with k | k
  · exact rim_in hp' hp (N.pos h3') (N.pos h1) h4' h2 (N.out h3' a ma) (N.out h1 a' ma') (by rw [d3_swap2]; omega) la0' (la1' a ma hne) (la1' b mb (Ne.symm hab')) la0 (la1 a' ma' (Ne.symm hne)) (la1 b mb (Ne.symm hab))
  · exact rim_in hp hp' (N.pos h3) (N.pos h1') h4 h2' (N.out h3 a' ma') (N.out h1' a ma) k la0 (la1 a' ma' (Ne.symm hne)) (la1 b mb (Ne.symm hab)) la0' (la1' a ma hne) (la1' b mb (Ne.symm hab'))

theorem Net.rim_out_uniq (N : Net V vs Tr) (sep : Sep V vs) {a b b' : Int} (h : Rim V Tr p a b) (h' : Rim V Tr p a b') : b = b' := by
  have hp := N.rim_pos h
  have hp' := N.rim_pos h'
  obtain ⟨c, y, h1, h2, h3, h4⟩ := h
  obtain ⟨c', y', h1', h2', h3', h4'⟩ := h'
  have ma := N.mem h1
  have mb := N.mem h3
  have mb' := N.mem h3'
  refine Classical.byContradiction fun hne => ?_
  have hab : a ≠ b := by intro e; subst e; have := N.pos h1; rw [d3_aab] at this; omega
  have hab' : a ≠ b' := by intro e; subst e; have := N.pos h1'; rw [d3_aab] at this; omega
  obtain ⟨lb, _, lb0, lb1⟩ := (sep b mb).2
  obtain ⟨lb', _, lb0', lb1'⟩ := (sep b' mb').2
  rcases Int.lt_or_le (d3 (V a) (V b') (V b)) 0 with k | k
  · exact rim_out hp' hp (N.pos h3') (N.pos h1) h4' h2 (N.out h3' b mb) (N.out h1 b' mb') (by rw [d3_swap2]; omega) lb0' (lb1' b mb hne) (lb1' a ma hab') lb0 (lb1 b' mb' (Ne.symm hne)) (lb1 a ma hab)
  · exact rim_out hp hp' (N.pos h3) (N.pos h1') h4 h2' (N.out h3 b' mb') (N.out h1' b mb) k lb0 (lb1 b' mb' (Ne.symm hne)) (lb1 a ma hab) lb0' (lb1' b mb hne) (lb1' a ma hab')

/-- the triangles around b that p lies below, by their first points -/
theorem Net.around (N : Net V vs Tr) (hnd : vs.Nodup) (b : Int) : ∃ (L : List Int) (f : Int → Int), L.Nodup ∧ (∀ c, c ∈ L ↔ ∃ x, Tr c b x ∧ 0 < kk (V c) (V b) (V x) (V p)) ∧ (∀ c ∈ L, Tr c b (f c)) ∧ (L.map f).Nodup := by
  classical
  refine ⟨vs.filter (fun c => decide (∃ x, Tr c b x ∧ 0 < kk (V c) (V b) (V x) (V p))), fun c => if h : ∃ x, Tr c b x then Classical.choose h else c, hnd.filter _, ?_, ?_, ?_⟩
  · intro c
    rw [List.mem_filter, decide_eq_true_eq]
    refine ⟨fun h => h.2, fun h => ⟨?_, h⟩⟩
    obtain ⟨x, hx, _⟩ := h
    exact N.mem hx
  · intro c hc
    rw [List.mem_filter, decide_eq_true_eq] at hc
    obtain ⟨_, x, hx, _⟩ := hc
    have h : ∃ x, Tr c b x := ⟨x, hx⟩
    dsimp only
    rw [dif_pos h]
    exact Classical.choose_spec h
  · refine nodup_map_on _ _ (hnd.filter _) ?_
    intro c hc d hd e
    rw [List.mem_filter, decide_eq_true_eq] at hc hd
    obtain ⟨_, x, hx, _⟩ := hc
    obtain ⟨_, y, hy, _⟩ := hd
    have h : ∃ x, Tr c b x := ⟨x, hx⟩
    have h' : ∃ x, Tr d b x := ⟨y, hy⟩
    rw [dif_pos h, dif_pos h'] at e
    have s := Classical.choose_spec h
    have s' := Classical.choose_spec h'
    rw [e] at s
    exact N.fn (N.rot s) (N.rot s')

theorem Net.rim_out_ex (N : Net V vs Tr) (hnd : vs.Nodup) {a b : Int} (h : Rim V Tr p a b) : ∃ c, Rim V Tr p b c := by
  obtain ⟨L, f, hL, hm, hf, hfn⟩ := N.around (p := p) hnd b
  refine Classical.byContradiction fun hno => ?_
  have hsub : ∀ c ∈ L.map f, c ∈ L := by
    intro c hc
    obtain ⟨d, hd, rfl⟩ := List.mem_map.1 hc
    obtain ⟨x, hx, hk⟩ := (hm d).1 hd
    have e := N.fn hx (hf d hd)
    subst e
    obtain ⟨y, hy⟩ := N.pair (N.rot hx)
    rw [hm]
    refine ⟨y, hy, ?_⟩
    rcases Int.lt_or_le 0 (kk (V (f d)) (V b) (V y) (V p)) with k | k
    · exact k
    · refine absurd ⟨f d, d, y, N.rot hx, ?_, hy, k⟩ hno
      rw [kk_rot]; exact hk
  obtain ⟨c, d, h1, h2, h3, h4⟩ := h
  have haL : a ∈ L := (hm a).2 ⟨c, h1, h2⟩
  have hna : a ∉ L.map f := by
    intro hc
    obtain ⟨e, he, ef⟩ := List.mem_map.1 hc
    obtain ⟨x, hx, hk⟩ := (hm e).1 he
    have e1 := N.fn hx (hf e he)
    subst e1
    have t := N.rot hx
    rw [ef] at t
    have e2 := N.fn t h3
    subst e2
    rw [ef, ← kk_rot] at hk
    omega
  have := len_le (a :: L.map f) L (List.nodup_cons.2 ⟨hna, hfn⟩) (fun q hq => by
    rcases List.mem_cons.1 hq with rfl | hq
    · exact haL
    · exact hsub q hq)
  simp at this
  omega

theorem Net.rim_in_ex (N : Net V vs Tr) (hnd : vs.Nodup) {b c : Int} (h : Rim V Tr p b c) : ∃ a, Rim V Tr p a b := by
  obtain ⟨L, f, hL, hm, hf, hfn⟩ := N.around (p := p) hnd b
  refine Classical.byContradiction fun hno => ?_
  have hsub : ∀ c ∈ L, c ∈ L.map f := by
    intro c hc
    obtain ⟨x, hx, hk⟩ := (hm c).1 hc
    obtain ⟨y, hy⟩ := N.pair hx
    rcases Int.lt_or_le 0 (kk (V b) (V c) (V y) (V p)) with k | k
    · have t : Tr y b c := N.rot (N.rot hy)
      have hyL : y ∈ L := (hm y).2 ⟨c, t, by rw [← kk_rot]; exact k⟩
      exact List.mem_map.2 ⟨y, hyL, N.fn (hf y hyL) t⟩
    · exact absurd ⟨c, x, y, hx, hk, hy, k⟩ hno
  obtain ⟨x, d, h1, h2, h3, h4⟩ := h
  have hcL : c ∉ L := by
    intro hc
    obtain ⟨y, hy, hk⟩ := (hm c).1 hc
    have := N.fn hy h3
    subst this
    omega
  have hcm : c ∈ L.map f := by
    have t : Tr x b c := N.rot (N.rot h1)
    have hx : x ∈ L := (hm x).2 ⟨c, t, by rw [← kk_rot]; exact h2⟩
    exact List.mem_map.2 ⟨x, hx, N.fn (hf x hx) t⟩
  have := len_le (c :: L) (L.map f) (List.nodup_cons.2 ⟨hcL, hL⟩) (fun q hq => by
    rcases List.mem_cons.1 hq with rfl | hq
    · exact hcm
    · exact hsub q hq)
  simp at this
  omega

/-- a new point lies below some plane -/
theorem Net.hole_ne (N : Net V vs Tr) (hp : p ∉ vs) (sep : Sep V (p :: vs)) : ∃ a b c, Tr a b c ∧ 0 < kk (V a) (V b) (V c) (V p) := by
  obtain ⟨a0, b0, c0, h0⟩ := N.ne
  obtain ⟨a, b, c, h, h1, h2, h3⟩ := cover N.toShut h0 (V p)
  obtain ⟨hw, l, lz, l0, l1⟩ := sep p (by simp)
  have ma := N.mem h
  have mb := N.mem (N.rot h)
  have mc := N.mem (N.rot (N.rot h))
  exact ⟨a, b, c, h, in_below (N.pos h) h2 h3 h1 l0 (l1 a (by simp [ma]) (fun e => hp (e ▸ ma))) (l1 b (by simp [mb]) (fun e => hp (e ▸ mb))) (l1 c (by simp [mc]) (fun e => hp (e ▸ mc))) lz hw⟩

def negV (v : Vec) : Vec := ⟨-v.x, -v.y, -v.w, -v.z⟩
theorem d3_neg (a b v : Vec) : d3 a b (negV v) = - d3 a b v := by unfold negV d3; grind

theorem Net.rim_ne (N : Net V vs Tr) (hp : p ∉ vs) (sep : Sep V (p :: vs)) : ∃ a b, Rim V Tr p a b := by
  refine Classical.byContradiction fun hno => ?_
  obtain ⟨a0, b0, c0, h0, k0⟩ := N.hole_ne hp sep
  have S : Shut V vs (fun a b c => Tr a b c ∧ 0 < kk (V a) (V b) (V c) (V p)) := by
    refine ⟨?_, ?_, ?_, ?_⟩
    · rintro a b c ⟨h, k⟩
      exact ⟨N.rot h, by rw [kk_rot]; exact k⟩
    · rintro a b c ⟨h, k⟩
      obtain ⟨d, hd⟩ := N.pair h
      refine ⟨d, hd, ?_⟩
      rcases Int.lt_or_le 0 (kk (V b) (V a) (V d) (V p)) with k' | k'
      · exact k'
      · exact absurd ⟨a, b, c, d, h, k, hd, k'⟩ hno
    · rintro a b c ⟨h, k⟩
      exact N.mem h
    · rintro a b c ⟨h, k⟩
      exact N.pos h
  obtain ⟨a, b, c, ⟨h, k⟩, h1, h2, h3⟩ := cover S ⟨h0, k0⟩ (negV (V p))
  rw [d3_neg] at h1 h2 h3
  have ma := N.mem h
  have mb := N.mem (N.rot h)
  have mc := N.mem (N.rot (N.rot h))
  obtain ⟨hw, l, lz, l0, l1⟩ := sep a (by simp [ma])
  have hpa : p ≠ a := fun e => hp (e ▸ ma)
  have hD := N.pos h
  have hba : b ≠ a := by intro e; subst e; rw [d3_aab] at hD; omega
  have hca : c ≠ a := by intro e; subst e; rw [d3_aba] at hD; omega
  exact not_opp hD (by omega) (by omega) (by omega) l0 (l1 p (by simp) hpa) (l1 b (by simp [mb]) hba) (l1 c (by simp [mc]) hca) lz k

theorem Net.rim_mem (N : Net V vs Tr) {a b : Int} (h : Rim V Tr p a b) : a ∈ vs ∧ b ∈ vs := by
  obtain ⟨c, d, h1, _, h3, _⟩ := h
  exact ⟨N.mem h1, N.mem h3⟩

/-- what an edge is, behind it -/
theorem Net.edge_kind (N : Net V vs Tr) (hp : p ∉ vs) {a b x : Int} (h : addTr V Tr p a b x) :
    ((∃ y, Tr a b y) ∧ a ∈ vs ∧ b ∈ vs ∧ ∃ r s t, Tr r s t ∧ kk (V r) (V s) (V t) (V p) ≤ 0 ∧ kk (V r) (V s) (V t) (V a) = 0 ∧ kk (V r) (V s) (V t) (V b) = 0) ∨
    (a = p ∧ b ∈ vs ∧ ∃ u v w, Tr u v w ∧ 0 < kk (V u) (V v) (V w) (V p) ∧ kk (V u) (V v) (V w) (V b) = 0) ∨
    (b = p ∧ a ∈ vs ∧ ∃ u v w, Tr u v w ∧ 0 < kk (V u) (V v) (V w) (V p) ∧ kk (V u) (V v) (V w) (V a) = 0) := by
  rcases h with ⟨h, k⟩ | ⟨h, rfl⟩ | ⟨h, rfl⟩ | ⟨h, rfl⟩
  · exact .inl ⟨⟨x, h⟩, N.mem h, N.mem (N.rot h), a, b, x, h, k, kk_a _ _ _, kk_b _ _ _⟩
  · have m := N.rim_mem h
    obtain ⟨c, d, h1, h2, h3, h4⟩ := h
    exact .inl ⟨⟨c, h1⟩, m.1, m.2, b, a, d, h3, h4, kk_b _ _ _, kk_a _ _ _⟩
  · have m := N.rim_mem h
    obtain ⟨c, d, h1, h2, h3, h4⟩ := h
    exact .inr (.inl ⟨rfl, m.1, b, x, c, h1, h2, kk_a _ _ _⟩)
  · have m := N.rim_mem h
    obtain ⟨c, d, h1, h2, h3, h4⟩ := h
    exact .inr (.inr ⟨rfl, m.2, x, a, c, h1, h2, kk_b _ _ _⟩)

theorem Net.add (N : Net V vs Tr) (hnd : vs.Nodup) (hp : p ∉ vs) (sep : Sep V (p :: vs)) : Net V (p :: vs) (addTr V Tr p) := by
  have sep' : Sep V vs := fun a ha => by
    obtain ⟨hw, l, lz, l0, l1⟩ := sep a (by simp [ha])
    exact ⟨hw, l, lz, l0, fun b hb => l1 b (by simp [hb])⟩
  have notp : ∀ {a}, a ∈ vs → a ≠ p := fun ha e => hp (e ▸ ha)
  refine { rot := ?_, pair := ?_, mem := ?_, pos := ?_, fn := ?_, out := ?_, ncr := ?_, ne := ?_ }
  · rintro a b c (⟨h, k⟩ | ⟨h, e⟩ | ⟨h, e⟩ | ⟨h, e⟩)
    · exact .inl ⟨N.rot h, by rw [kk_rot]; exact k⟩
    · exact .inr (.inr (.inr ⟨h, e⟩))
    · exact .inr (.inl ⟨h, e⟩)
    · exact .inr (.inr (.inl ⟨h, e⟩))
  · rintro a b c (⟨h, k⟩ | ⟨h, rfl⟩ | ⟨h, rfl⟩ | ⟨h, rfl⟩)
    · obtain ⟨d, hd⟩ := N.pair h
      rcases Int.lt_or_le 0 (kk (V b) (V a) (V d) (V p)) with k' | k'
      · exact ⟨p, .inr (.inl ⟨⟨d, c, hd, k', h, k⟩, rfl⟩)⟩
      · exact ⟨d, .inl ⟨hd, k'⟩⟩
    · obtain ⟨x, d, _, _, h3, h4⟩ := h
      exact ⟨d, .inl ⟨h3, h4⟩⟩
    · obtain ⟨z, hz⟩ := N.rim_in_ex hnd h
      exact ⟨z, .inr (.inr (.inr ⟨hz, rfl⟩))⟩
    · obtain ⟨z, hz⟩ := N.rim_out_ex hnd h
      exact ⟨z, .inr (.inr (.inl ⟨hz, rfl⟩))⟩
  · rintro a b c (⟨h, k⟩ | ⟨h, rfl⟩ | ⟨h, rfl⟩ | ⟨h, rfl⟩)
    · have := N.mem h; simp [this]
    · have := (N.rim_mem h).1; simp [this]
    · simp
    · have := (N.rim_mem h).2; simp [this]
  · rintro a b c (⟨h, k⟩ | ⟨h, rfl⟩ | ⟨h, rfl⟩ | ⟨h, rfl⟩)
    · exact N.pos h
    · exact N.rim_pos h
    · rw [← d3_rot]; exact N.rim_pos h
    · have := N.rim_pos h; rw [d3_rot, d3_rot] at this; exact this
  · intro a b c d h h'
    rcases h with ⟨h, k⟩ | ⟨h, e⟩ | ⟨h, e⟩ | ⟨h, e⟩ <;> rcases h' with ⟨h', k'⟩ | ⟨h', e'⟩ | ⟨h', e'⟩ | ⟨h', e'⟩
    · exact N.fn h h'
    · obtain ⟨x, y, h1, h2, _, _⟩ := h'
      have := N.fn h h1; subst this; omega
    · exact absurd e' (notp (N.mem h))
    · exact absurd e' (notp (N.mem (N.rot h)))
    · obtain ⟨x, y, h1, h2, _, _⟩ := h
      have := N.fn h' h1; subst this; omega
    · rw [e, e']
    · exact absurd e' (notp (N.rim_mem h).1)
    · exact absurd e' (notp (N.rim_mem h).2)
    · exact absurd e (notp (N.mem h'))
    · exact absurd e (notp (N.rim_mem h').1)
    · exact N.rim_out_uniq sep' h h'
    · exact absurd e' (notp (N.rim_mem h).1)
    · exact absurd e (notp (N.mem (N.rot h')))
    · exact absurd e (notp (N.rim_mem h').2)
    · exact absurd e (notp (N.rim_mem h').1)
    · exact N.rim_in_uniq sep' h h'
  · have rimk : ∀ {a b}, Rim V Tr p a b → ∀ q ∈ p :: vs, kk (V a) (V b) (V p) (V q) ≤ 0 := by
      intro a b h q hq
      have hpos := N.rim_pos h
      rcases List.mem_cons.1 hq with rfl | hq
      · rw [kk_c]; omega
      · obtain ⟨c, d, h1, h2, h3, h4⟩ := h
        exact new_out (N.pos h1) (N.pos h3) hpos h2 h4 (N.out h1 q hq) (N.out h3 q hq)
    rintro a b c (⟨h, k⟩ | ⟨h, rfl⟩ | ⟨h, rfl⟩ | ⟨h, rfl⟩) q hq
    · rcases List.mem_cons.1 hq with rfl | hq
      · exact k
      · exact N.out h q hq
    · exact rimk h q hq
    · rw [← kk_rot]; exact rimk h q hq
    · have := rimk h q hq; rw [kk_rot, kk_rot] at this; exact this
  · intro a b x c d y h h' hc
    have k := N.edge_kind hp h
    have k' := N.edge_kind hp h'
    rcases k with ⟨⟨x1, g1⟩, ma, mb, r, s, t, g2, g3, g4, g5⟩ | ⟨rfl, mb, u, v, w, g1, g2, g3⟩ | ⟨rfl, ma, u, v, w, g1, g2, g3⟩
    · rcases k' with ⟨⟨x1', g1'⟩, mc, md, r', s', t', g2', g3', g4', g5'⟩ | ⟨rfl, md, u', v', w', g1', g2', g3'⟩ | ⟨rfl, mc, u', v', w', g1', g2', g3'⟩
      · exact N.ncr g1 g1' hc
      · exact no_cross (N.pos g1') (N.pos g2) g3' g2' (N.out g1' a ma) (N.out g1' b mb) g4 g5 (N.out g2 d md) g3 hc.flip.turn
      · exact no_cross (N.pos g1') (N.pos g2) g3' g2' (N.out g1' b mb) (N.out g1' a ma) g5 g4 (N.out g2 c mc) g3 hc.flip
    · rcases k' with ⟨⟨x1', g1'⟩, mc, md, r', s', t', g2', g3', g4', g5'⟩ | ⟨e, md, _⟩ | ⟨e, mc, _⟩
      · exact no_cross (N.pos g1) (N.pos g2') g3 g2 (N.out g1 d md) (N.out g1 c mc) g5' g4' (N.out g2' b mb) g3' hc.turn
      · have := hc.2.1; rw [e, d3_aab] at this; omega
      · have := hc.2.1; rw [e, d3_aba] at this; omega
    · rcases k' with ⟨⟨x1', g1'⟩, mc, md, r', s', t', g2', g3', g4', g5'⟩ | ⟨e, md, _⟩ | ⟨e, mc, _⟩
      · exact no_cross (N.pos g1) (N.pos g2') g3 g2 (N.out g1 c mc) (N.out g1 d md) g4' g5' (N.out g2' a ma) g3' hc
      · have := hc.1; rw [e, d3_aab] at this; omega
      · have := hc.1; rw [e, d3_aba] at this; omega
  · obtain ⟨a, b, h⟩ := N.rim_ne hp sep
    exact ⟨a, b, p, .inr (.inl ⟨h, rfl⟩)⟩
end
end Go.Proofs.Ytgpapegpdfonpaa
