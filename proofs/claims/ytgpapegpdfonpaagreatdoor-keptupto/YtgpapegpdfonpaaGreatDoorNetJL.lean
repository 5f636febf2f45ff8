/-
  In how many triangles a place lies: in one at most; on how many edges: on one at most.
  Where a place lies: in one triangle at most; on one edge at most; not both.
  Where a place lies, by triangles: what is asked of a triangulation, that it is told in one way alone; a mesh, by the document (mathematics alone).
  Where a place lies, as the program tells it: by neighbours on a line, or by the sides of triangles: that this is where it lies (mathematics alone).
-/
import Derived.Test.YtgpapegpdfonpaaGreatDoorNetAll
import Derived.Test.YtgpapegpdfonpaaGreatDoorMathJ
namespace Go.Proofs.YtgpapegpdfonpaaGreatDoor
set_option linter.unusedVariables false
set_option linter.unusedSimpArgs false

/-- how an edge passes over a place: leftwards 1, rightwards -1 -/
def ov (p u v : Pt) : Int := if p.1 < u.1 ∧ v.1 ≤ p.1 ∧ 0 < sd u v p then 1 else if u.1 ≤ p.1 ∧ p.1 < v.1 ∧ 0 < sd v u p then -1 else 0
theorem ov_swap (p u v : Pt) : ov p u v = - ov p v u := by
  unfold ov
  split <;> split <;> (try split) <;> (try split) <;> omega
theorem ov_lr {p u v : Pt} (h1 : u.1 ≤ p.1) (h2 : p.1 < v.1) : ov p u v = if 0 < sd v u p then -1 else 0 := by
  unfold ov
  split <;> split <;> (try split) <;> omega
theorem ov_rl {p u v : Pt} (h1 : p.1 < u.1) (h2 : v.1 ≤ p.1) : ov p u v = if 0 < sd u v p then 1 else 0 := by
  unfold ov
  split <;> split <;> (try split) <;> omega
theorem ov_ll {p u v : Pt} (h1 : u.1 ≤ p.1) (h2 : v.1 ≤ p.1) : ov p u v = 0 := by
  unfold ov
  split <;> (try split) <;> omega
theorem ov_rr {p u v : Pt} (h1 : p.1 < u.1) (h2 : p.1 < v.1) : ov p u v = 0 := by
  unfold ov
  split <;> (try split) <;> omega
theorem ov_le (p u v : Pt) : ov p u v ≤ 1 := by
  unfold ov
  split <;> (try split) <;> omega
theorem ov_pos {p u v : Pt} (h : 0 < ov p u v) : p.1 < u.1 ∧ v.1 ≤ p.1 := by
  unfold ov at h
  split at h
  · omega
  · split at h <;> omega

theorem sd_turn (a b c : Pt) : sd b c a = sd a b c := by unfold sd; grind
theorem sd_flip (a b c : Pt) : sd b a c = - sd a b c := by unfold sd; grind
theorem ov_key1 {a b c p : Pt} (h : 0 < sd a b c) (ha : a.1 ≤ p.1) (hb : p.1 < b.1) (hc : p.1 < c.1) (hs : 0 < sd b a p) : 0 < sd c a p := by
  have e : (b.1 - a.1) * sd c a p = (c.1 - a.1) * sd b a p + (p.1 - a.1) * sd a b c := by unfold sd; grind
  have h1 := mpp (show 0 < c.1 - a.1 by omega) hs
  have h2 := mnn (show 0 ≤ p.1 - a.1 by omega) (Int.le_of_lt h)
  rcases Int.lt_or_le 0 (sd c a p) with k | k
  · exact k
  · have := mnq (show 0 ≤ b.1 - a.1 by omega) k
    omega
theorem ov_key2 {a b c p : Pt} (h : 0 < sd a b c) (ha : a.1 ≤ p.1) (hb : b.1 ≤ p.1) (hc : p.1 < c.1) (hs : 0 < sd c b p) : 0 < sd c a p := by
  have e : (c.1 - b.1) * sd c a p = (c.1 - a.1) * sd c b p + (c.1 - p.1) * sd a b c := by unfold sd; grind
  have h1 := mpp (show 0 < c.1 - a.1 by omega) hs
  have h2 := mnn (show 0 ≤ c.1 - p.1 by omega) (Int.le_of_lt h)
  rcases Int.lt_or_le 0 (sd c a p) with k | k
  · exact k
  · have := mnq (show 0 ≤ c.1 - b.1 by omega) k
    omega

/-- how often a place lies in a triangle -/
def inT (p a b c : Pt) : Int := ov p a b + ov p b c + ov p c a
theorem inT_rot (p a b c : Pt) : inT p b c a = inT p a b c := by unfold inT; omega
/-- one left of it, two right -/
theorem inT_one {a b c p : Pt} (ha : a.1 ≤ p.1) (hb : p.1 < b.1) (hc : p.1 < c.1) : inT p a b c = (if 0 < sd c a p then 1 else 0) - (if 0 < sd b a p then 1 else 0) := by
  unfold inT
  rw [ov_lr ha hb, ov_rr hb hc, ov_rl hc ha]
  split <;> split <;> omega
theorem inT_two {a b c p : Pt} (ha : a.1 ≤ p.1) (hb : b.1 ≤ p.1) (hc : p.1 < c.1) : inT p a b c = (if 0 < sd c a p then 1 else 0) - (if 0 < sd c b p then 1 else 0) := by
  unfold inT
  rw [ov_ll ha hb, ov_lr hb hc, ov_rl hc ha]
  split <;> split <;> omega
/-- up to turning there are four kinds -/
theorem inT_cases {Q : Pt → Pt → Pt → Prop} (p : Pt) (hrot : ∀ a b c, Q a b c → Q b c a) (hl : ∀ a b c, a.1 ≤ p.1 → b.1 ≤ p.1 → c.1 ≤ p.1 → Q a b c) (hr : ∀ a b c, p.1 < a.1 → p.1 < b.1 → p.1 < c.1 → Q a b c)
    (h1 : ∀ a b c, a.1 ≤ p.1 → p.1 < b.1 → p.1 < c.1 → Q a b c) (h2 : ∀ a b c, a.1 ≤ p.1 → b.1 ≤ p.1 → p.1 < c.1 → Q a b c) (a b c : Pt) : Q a b c := by
  rcases Int.lt_or_le p.1 a.1 with ka | ka <;> rcases Int.lt_or_le p.1 b.1 with kb | kb <;> rcases Int.lt_or_le p.1 c.1 with kc | kc
  · exact hr a b c ka kb kc
  · exact hrot c a b (h1 c a b kc ka kb)
  · exact hrot _ _ _ (hrot _ _ _ (h1 b c a kb kc ka))
  · exact hrot _ _ _ (hrot _ _ _ (h2 b c a kb kc ka))
  · exact h1 a b c ka kb kc
  · exact hrot c a b (h2 c a b kc ka kb)
  · exact h2 a b c ka kb kc
  · exact hl a b c ka kb kc
theorem inT_nonneg (p : Pt) : ∀ a b c, 0 < sd a b c → 0 ≤ inT p a b c := by
  refine inT_cases p (fun a b c h hs => ?_) (fun a b c ha hb hc _ => ?_) (fun a b c ha hb hc _ => ?_) (fun a b c ha hb hc h => ?_) (fun a b c ha hb hc h => ?_)
  · rw [inT_rot]; exact h (by rw [← sd_turn]; exact hs)
  · unfold inT; rw [ov_ll ha hb, ov_ll hb hc, ov_ll hc ha]; omega
  · unfold inT; rw [ov_rr ha hb, ov_rr hb hc, ov_rr hc ha]; omega
  · rw [inT_one ha hb hc]
    have := ov_key1 h ha hb hc
    split
    · split <;> omega
    · split
      · rename_i h1 h2; exact absurd (this h2) h1
      · omega
  · rw [inT_two ha hb hc]
    have := ov_key2 h ha hb hc
    split
    · split <;> omega
    · split
      · rename_i h1 h2; exact absurd (this h2) h1
      · omega
theorem bary (a b c p : Pt) : sd a b c * p.1 = sd b c p * a.1 + sd c a p * b.1 + sd a b p * c.1 ∧ sd a b c * p.2 = sd b c p * a.2 + sd c a p * b.2 + sd a b p * c.2 ∧ sd a b c = sd b c p + sd c a p + sd a b p := by
  unfold sd; grind
theorem inT_in (p : Pt) : ∀ a b c, (0 < sd a b p ∧ 0 < sd b c p ∧ 0 < sd c a p) → 1 ≤ inT p a b c := by
  refine inT_cases p (fun a b c h hs => ?_) (fun a b c ha hb hc h => ?_) (fun a b c ha hb hc h => ?_) (fun a b c ha hb hc h => ?_) (fun a b c ha hb hc h => ?_)
  · rw [inT_rot]; exact h ⟨hs.2.2, hs.1, hs.2.1⟩
  · exfalso
    obtain ⟨h1, h2, h3⟩ := h
    obtain ⟨e1, _, e3⟩ := bary a b c p
    have k1 := mnq (Int.le_of_lt h2) (show a.1 - p.1 ≤ 0 by omega)
    have k2 := mnq (Int.le_of_lt h3) (show b.1 - p.1 ≤ 0 by omega)
    have k3 := mnq (Int.le_of_lt h1) (show c.1 - p.1 ≤ 0 by omega)
    have e : sd b c p * (a.1 - p.1) + sd c a p * (b.1 - p.1) + sd a b p * (c.1 - p.1) = 0 := by grind
    have z1 : a.1 - p.1 = 0 := dz h2 (by omega)
    have z2 : b.1 - p.1 = 0 := dz h3 (by omega)
    have z3 : c.1 - p.1 = 0 := dz h1 (by omega)
    have : sd a b p = 0 := by
      unfold sd
      rw [show b.1 - a.1 = 0 by omega, show p.1 - a.1 = 0 by omega]
      simp
    omega
  · exfalso
    obtain ⟨h1, h2, h3⟩ := h
    obtain ⟨e1, _, e3⟩ := bary a b c p
    have k1 := mpp h2 (show 0 < a.1 - p.1 by omega)
    have k2 := mpp h3 (show 0 < b.1 - p.1 by omega)
    have k3 := mpp h1 (show 0 < c.1 - p.1 by omega)
    have e : sd b c p * (a.1 - p.1) + sd c a p * (b.1 - p.1) + sd a b p * (c.1 - p.1) = 0 := by grind
    omega
  · rw [inT_one ha hb hc, if_pos h.2.2, if_neg (by rw [sd_flip]; omega)]; omega
  · rw [inT_two ha hb hc, if_pos h.2.2, if_neg (by rw [sd_flip]; omega)]; omega

/-- strictly between two points: what lies left of the one goes on -/
theorem mid_sides {a b c p : Pt} (hab : a ≠ b) (h0 : sd a b p = 0) (hd : dt a b p < 0) (h : 0 < sd a b c) : 0 < sd b c p ∧ 0 < sd c a p := by
  have hL := len2_pos hab
  have e := dt_line a b a b p
  rw [tau_A, tau_B, sd_A, sd_B, h0] at e
  have f1 := sd_line a b b c p
  have f2 := sd_line a b c a p
  rw [tau_B, sd_B, h0] at f1
  rw [tau_A, sd_A, h0] at f2
  have hneg := mpm hL hd
  generalize len2 a b = L at *
  generalize tau a b p = r at *
  generalize tau a b c = q at *
  have hr0 : 0 < r := by
    rcases Int.lt_or_le 0 r with k | k
    · exact k
    · have := mqq k (show r - L ≤ 0 by omega); grind
  have hrL : r < L := by
    rcases Int.lt_or_le r L with k | k
    · exact k
    · have := mnn (Int.le_of_lt hr0) (show 0 ≤ r - L by omega); grind
  have g1 : L * sd b c p = sd a b c * (L - r) := by grind
  have g2 : L * sd c a p = sd a b c * r := by grind
  have k1 := mpp h (show 0 < L - r by omega)
  have k2 := mpp h hr0
  constructor
  · rcases Int.lt_or_le 0 (sd b c p) with k | k
    · exact k
    · have := mnq (Int.le_of_lt hL) k; omega
  · rcases Int.lt_or_le 0 (sd c a p) with k | k
    · exact k
    · have := mnq (Int.le_of_lt hL) k; omega
theorem line_x (A B q : Pt) : len2 A B * (q.1 - A.1) = tau A B q * (B.1 - A.1) - sd A B q * (B.2 - A.2) := by unfold len2 tau sd; grind
theorem mid_range {a b p : Pt} (hab : a ≠ b) (h0 : sd a b p = 0) (hd : dt a b p < 0) : 0 < tau a b p ∧ tau a b p < len2 a b := by
  have hL := len2_pos hab
  have e := dt_line a b a b p
  rw [tau_A, tau_B, sd_A, sd_B, h0] at e
  have hneg := mpm hL hd
  generalize len2 a b = L at *
  generalize tau a b p = r at *
  have hr0 : 0 < r := by
    rcases Int.lt_or_le 0 r with k | k
    · exact k
    · have := mqq k (show r - L ≤ 0 by omega); grind
  refine ⟨hr0, ?_⟩
  rcases Int.lt_or_le r L with k | k
  · exact k
  · have := mnn (Int.le_of_lt hr0) (show 0 ≤ r - L by omega); grind
/-- the way in which an edge is gone along by the triangle that has what lies on it -/
def cnt (a b : Pt) : Prop := a.1 < b.1 ∨ (a.1 = b.1 ∧ b.2 < a.2)
theorem cnt_or {a b : Pt} (h : a ≠ b) : cnt a b ∨ cnt b a := by
  unfold cnt
  have : ¬ (a.1 = b.1 ∧ a.2 = b.2) := fun e => h (Prod.ext e.1 e.2)
  omega
theorem inT_edge {a b c p : Pt} (h : 0 < sd a b c) (h0 : sd a b p = 0) (hd : dt a b p < 0) (hc : cnt a b) : 1 ≤ inT p a b c := by
  have hab : a ≠ b := by
    intro e; subst e
    have : sd a a c = 0 := by unfold sd; grind
    omega
  obtain ⟨s1, s2⟩ := mid_sides hab h0 hd h
  obtain ⟨r1, r2⟩ := mid_range hab h0 hd
  have hx := line_x a b p
  rw [h0] at hx
  have hL := len2_pos hab
  generalize len2 a b = L at *
  generalize tau a b p = r at *
  rcases hc with hc | ⟨hc, hy⟩
  · have ha : a.1 ≤ p.1 := by
      have := mpp r1 (show 0 < b.1 - a.1 by omega)
      rcases Int.lt_or_le p.1 a.1 with k | k
      · have := mpm hL (show p.1 - a.1 < 0 by omega); grind
      · exact k
    have hb : p.1 < b.1 := by
      rcases Int.lt_or_le p.1 b.1 with k | k
      · exact k
      · have g : L * (p.1 - b.1) = (r - L) * (b.1 - a.1) := by grind
        have g1 := mmp (show r - L < 0 by omega) (show 0 < b.1 - a.1 by omega)
        have g2 := mnn (Int.le_of_lt hL) (show 0 ≤ p.1 - b.1 by omega)
        omega
    have hz : ov p a b = 0 := by rw [ov_lr ha hb, if_neg (by rw [sd_flip]; omega)]
    unfold inT
    rw [hz]
    rcases Int.lt_or_le p.1 c.1 with k | k
    · rw [ov_rr hb k, ov_rl k ha, if_pos s2]; omega
    · rw [ov_rl hb k, ov_ll k ha, if_pos s1]; omega
  · have ep : p.1 = a.1 := by
      have : L * (p.1 - a.1) = 0 := by rw [hx, show b.1 - a.1 = 0 by omega]; simp
      have := dz hL this
      omega
    have hk : p.1 < c.1 := by
      have e : sd a b c = (a.2 - b.2) * (c.1 - a.1) := by unfold sd; rw [show b.1 - a.1 = 0 by omega]; grind
      rcases Int.lt_or_le p.1 c.1 with k | k
      · exact k
      · have := mnq (show 0 ≤ a.2 - b.2 by omega) (show c.1 - a.1 ≤ 0 by omega)
        omega
    unfold inT
    rw [ov_ll (show a.1 ≤ p.1 by omega) (show b.1 ≤ p.1 by omega), ov_lr (show b.1 ≤ p.1 by omega) hk, ov_rl hk (show a.1 ≤ p.1 by omega), if_pos s2, if_neg (by rw [sd_flip]; omega)]
    omega

theorem lsum_le_one {α : Type} {f : α → Int} : ∀ {L : List α}, L.Nodup → (∀ x ∈ L, f x ≤ 1) → (∀ x ∈ L, ∀ y ∈ L, 0 < f x → 0 < f y → x = y) → lsum f L ≤ 1
  | [], _, _, _ => by simp [lsum]
  | a :: L, hn, h1, hu => by
    obtain ⟨hna, hn⟩ := List.nodup_cons.1 hn
    have key : ∀ M : List α, (∀ x ∈ M, f x ≤ 0) → lsum f M ≤ 0 := by
      intro M
      induction M with
      | nil => intro _; simp [lsum]
      | cons b M ih => intro h; have := ih (fun x hx => h x (by simp [hx])); have := h b (by simp); simp only [lsum]; omega
    simp only [lsum]
    have ha := h1 a (by simp)
    rcases Int.lt_or_le 0 (f a) with k | k
    · have := key L fun x hx => by
        rcases Int.lt_or_le 0 (f x) with k' | k'
        · have := hu a (by simp) x (by simp [hx]) k k'
          subst this
          exact absurd hx hna
        · exact k'
      omega
    · have := lsum_le_one hn (fun x hx => h1 x (by simp [hx])) (fun x hx y hy => hu x (by simp [hx]) y (by simp [hy]))
      omega
theorem lsum_nonneg {α : Type} {f : α → Int} : ∀ {L : List α}, (∀ x ∈ L, 0 ≤ f x) → 0 ≤ lsum f L
  | [], _ => by simp [lsum]
  | a :: L, h => by
    have := lsum_nonneg (L := L) fun x hx => h x (by simp [hx])
    have := h a (by simp)
    simp only [lsum]; omega
theorem lsum_two {α : Type} [DecidableEq α] {f : α → Int} {L : List α} (h : ∀ x ∈ L, 0 ≤ f x) {x y : α} (hx : x ∈ L) (hy : y ∈ L) (hne : x ≠ y) (h1 : 1 ≤ f x) (h2 : 1 ≤ f y) : 2 ≤ lsum f L := by
  rw [lsum_erase f L x hx]
  have hy' : y ∈ L.erase x := (List.mem_erase_of_ne (Ne.symm hne)).2 hy
  rw [lsum_erase f (L.erase x) y hy']
  have := lsum_nonneg (f := f) (L := (L.erase x).erase y) fun z hz => h z (List.mem_of_mem_erase (List.mem_of_mem_erase hz))
  omega

section
variable {P : Int → Pt} {S : List Int} {a b c : Int} {Tr : Int → Int → Int → Prop}
open Classical
theorem NetOf.sum_ts (e : Pt → Pt → Int) (he : ∀ u v, e u v = - e v u) (N : NetOf P S a b c Tr) (hS : S.Nodup) (ts : List (Int × Int × Int)) (hts : ts.Nodup) (hmem : ∀ x y z, (x, y, z) ∈ ts ↔ Tr x y z ∧ 0 ≤ x ∧ x < y ∧ x < z)
    (G : List (Int × Int)) (hG : G.Nodup) (hGm : ∀ x y, (x, y) ∈ G ↔ Tr x y (-1)) :
    lsum (fun t => e (P t.1) (P t.2.1) + e (P t.2.1) (P t.2.2) + e (P t.2.2) (P t.1)) ts = lsum (fun q => e (P q.2) (P q.1)) G := by
  have hA := nodup_allTr (Tr := Tr) hS
  have hP := nodup_pairs hS
  have hT : ∀ x y z, (x, y, z) ∈ ts → Tr x y z ∧ x ∈ S ∧ y ∈ S ∧ z ∈ S ∧ x < y ∧ x < z := by
    intro x y z hh
    obtain ⟨t, h0, h1, h2⟩ := (hmem x y z).1 hh
    exact ⟨t, N.mem t h0, N.mem (N.rot t) (by omega), N.mem (N.rot (N.rot t)) (by omega), h1, h2⟩
  have e1 : lsum (fun t : Int × Int × Int => e (P t.1) (P t.2.1)) (allTr S Tr) = lsum (fun t : Int × Int × Int => e (P t.1) (P t.2.1) + e (P t.2.1) (P t.2.2) + e (P t.2.2) (P t.1)) ts := by
    rw [lsum_three _ (fun t : Int × Int × Int => decide (t ∈ ts)) (fun t => decide ((t.2.1, t.2.2, t.1) ∈ ts)) (fun t => decide ((t.2.2, t.1, t.2.1) ∈ ts)) (allTr S Tr) (by
      rintro ⟨x, y, z⟩ hh
      obtain ⟨t, hx, hy, hz⟩ := mem_allTr.1 hh
      obtain ⟨n1, n2, n3⟩ := N.ne3 t
      have h0 := N.nn x hx
      have h1 := N.nn y hy
      have h2 := N.nn z hz
      have t2 := N.rot t
      have t3 := N.rot t2
      simp only [decide_eq_true_eq, decide_eq_false_iff_not, hmem]
      by_cases k1 : x < y <;> by_cases k2 : x < z <;> by_cases k3 : y < z
      · exact .inl ⟨⟨t, h0, k1, k2⟩, fun r => by omega, fun r => by omega⟩
      · exact .inl ⟨⟨t, h0, k1, k2⟩, fun r => by omega, fun r => by omega⟩
      · omega
      · exact .inr (.inr ⟨fun r => by omega, fun r => by omega, ⟨t3, h2, by omega, by omega⟩⟩)
      · exact .inr (.inl ⟨fun r => by omega, ⟨t2, h1, by omega, by omega⟩, fun r => by omega⟩)
      · omega
      · exact .inr (.inl ⟨fun r => by omega, ⟨t2, h1, by omega, by omega⟩, fun r => by omega⟩)
      · exact .inr (.inr ⟨fun r => by omega, fun r => by omega, ⟨t3, h2, by omega, by omega⟩⟩))]
    have p1 : lsum (fun t : Int × Int × Int => e (P t.1) (P t.2.1)) ((allTr S Tr).filter (fun t => decide (t ∈ ts))) = lsum (fun t : Int × Int × Int => e (P t.1) (P t.2.1)) ts := by
      refine lsum_bij id (hA.filter _) hts (fun _ _ _ _ e' => e') ?_ ?_ (fun _ _ => rfl)
      · intro t ht; rw [List.mem_filter, decide_eq_true_eq] at ht; exact ht.2
      · rintro ⟨x, y, z⟩ ht
        have := hT x y z ht
        refine ⟨(x, y, z), ?_, rfl⟩
        rw [List.mem_filter, decide_eq_true_eq]
        exact ⟨mem_allTr.2 ⟨this.1, this.2.1, this.2.2.1, this.2.2.2.1⟩, ht⟩
    have p2 : lsum (fun t : Int × Int × Int => e (P t.1) (P t.2.1)) ((allTr S Tr).filter (fun t => decide ((t.2.1, t.2.2, t.1) ∈ ts))) = lsum (fun t : Int × Int × Int => e (P t.2.2) (P t.1)) ts := by
      refine lsum_bij (fun t => (t.2.1, t.2.2, t.1)) (hA.filter _) hts ?_ ?_ ?_ (fun _ _ => rfl)
      · rintro ⟨x, y, z⟩ _ ⟨x', y', z'⟩ _ e'
        simp at e' ⊢; omega
      · intro t ht; rw [List.mem_filter, decide_eq_true_eq] at ht; exact ht.2
      · rintro ⟨x, y, z⟩ ht
        have := hT x y z ht
        refine ⟨(z, x, y), ?_, rfl⟩
        rw [List.mem_filter, decide_eq_true_eq]
        exact ⟨mem_allTr.2 ⟨N.rot (N.rot this.1), this.2.2.2.1, this.2.1, this.2.2.1⟩, ht⟩
    have p3 : lsum (fun t : Int × Int × Int => e (P t.1) (P t.2.1)) ((allTr S Tr).filter (fun t => decide ((t.2.2, t.1, t.2.1) ∈ ts))) = lsum (fun t : Int × Int × Int => e (P t.2.1) (P t.2.2)) ts := by
      refine lsum_bij (fun t => (t.2.2, t.1, t.2.1)) (hA.filter _) hts ?_ ?_ ?_ (fun _ _ => rfl)
      · rintro ⟨x, y, z⟩ _ ⟨x', y', z'⟩ _ e'
        simp at e' ⊢; omega
      · intro t ht; rw [List.mem_filter, decide_eq_true_eq] at ht; exact ht.2
      · rintro ⟨x, y, z⟩ ht
        have := hT x y z ht
        refine ⟨(y, z, x), ?_, rfl⟩
        rw [List.mem_filter, decide_eq_true_eq]
        exact ⟨mem_allTr.2 ⟨N.rot this.1, this.2.2.1, this.2.2.2.1, this.2.1⟩, ht⟩
    rw [p1, p2, p3, ← lsum_add, ← lsum_add]
    refine lsum_congr (fun t _ => ?_)
    omega
  generalize hDEe : (pairs S).filter (fun q => decide (∃ x, Tr q.1 q.2 x)) = DE
  have hDEn : DE.Nodup := by rw [← hDEe]; exact hP.filter _
  have hDE : ∀ v w, (v, w) ∈ DE ↔ (v ∈ S ∧ w ∈ S) ∧ ∃ x, Tr v w x := by
    intro v w
    rw [← hDEe, List.mem_filter, decide_eq_true_eq, mem_pairs]
  have e2 : lsum (fun q : Int × Int => e (P q.1) (P q.2)) DE = 0 := by
    have : lsum (fun q : Int × Int => e (P q.1) (P q.2)) DE = lsum (fun q : Int × Int => - e (P q.1) (P q.2)) DE := by
      refine lsum_bij (fun q => (q.2, q.1)) hDEn hDEn ?_ ?_ ?_ ?_
      · rintro ⟨v, w⟩ _ ⟨v', w'⟩ _ e'
        simp at e' ⊢; omega
      · rintro ⟨v, w⟩ hh
        obtain ⟨⟨hv, hw⟩, x, hx⟩ := (hDE v w).1 hh
        exact (hDE w v).2 ⟨⟨hw, hv⟩, N.pair hx⟩
      · rintro ⟨v, w⟩ hh
        obtain ⟨⟨hv, hw⟩, x, hx⟩ := (hDE v w).1 hh
        exact ⟨(w, v), (hDE w v).2 ⟨⟨hw, hv⟩, N.pair hx⟩, rfl⟩
      · rintro ⟨v, w⟩ _
        exact he _ _
    rw [lsum_neg] at this
    omega
  have e3 := lsum_split (fun q : Int × Int => e (P q.1) (P q.2)) (fun q : Int × Int => decide (∃ x ∈ S, Tr q.1 q.2 x)) DE
  have b6 : lsum (fun t : Int × Int × Int => e (P t.1) (P t.2.1)) (allTr S Tr) = lsum (fun q : Int × Int => e (P q.1) (P q.2)) (DE.filter (fun q : Int × Int => decide (∃ x ∈ S, Tr q.1 q.2 x))) := by
    refine lsum_bij (fun t => (t.1, t.2.1)) hA (hDEn.filter _) ?_ ?_ ?_ (fun _ _ => rfl)
    · rintro ⟨x, y, z⟩ h ⟨x', y', z'⟩ h' e'
      have h := mem_allTr.1 h
      have h' := mem_allTr.1 h'
      simp at e'
      obtain ⟨rfl, rfl⟩ := e'
      rw [N.fn h.1 h'.1]
    · rintro ⟨x, y, z⟩ h
      obtain ⟨t, hx, hy, hz⟩ := mem_allTr.1 h
      rw [List.mem_filter, decide_eq_true_eq, hDE]
      exact ⟨⟨⟨hx, hy⟩, z, t⟩, z, hz, t⟩
    · rintro ⟨v, w⟩ h
      rw [List.mem_filter, decide_eq_true_eq, hDE] at h
      obtain ⟨⟨⟨hv, hw⟩, _⟩, x, hx, t⟩ := h
      exact ⟨(v, w, x), mem_allTr.2 ⟨t, hv, hw, hx⟩, rfl⟩
  have b7 : lsum (fun q : Int × Int => e (P q.1) (P q.2)) (DE.filter (fun q : Int × Int => ! decide (∃ x ∈ S, Tr q.1 q.2 x))) = lsum (fun q : Int × Int => e (P q.1) (P q.2)) G := by
    refine lsum_bij id (hDEn.filter _) hG (fun _ _ _ _ e' => e') ?_ ?_ (fun _ _ => rfl)
    · rintro ⟨v, w⟩ h
      rw [List.mem_filter, hDE] at h
      simp only [Bool.not_eq_true', decide_eq_false_iff_not] at h
      obtain ⟨⟨⟨hv, hw⟩, x, hx⟩, h2⟩ := h
      rcases N.lab (N.rot (N.rot hx)) with e' | e'
      · subst e'; exact (hGm v w).2 hx
      · exact absurd ⟨x, e', hx⟩ h2
    · rintro ⟨v, w⟩ h
      have h := (hGm v w).1 h
      have hm := N.ghost_mem h
      refine ⟨(v, w), ?_, rfl⟩
      rw [List.mem_filter, hDE]
      simp only [Bool.not_eq_true', decide_eq_false_iff_not]
      refine ⟨⟨hm, -1, h⟩, ?_⟩
      rintro ⟨x, hx, t⟩
      have := N.fn t h
      have := N.nn x hx
      omega
  have e4 : lsum (fun q : Int × Int => e (P q.2) (P q.1)) G = - lsum (fun q : Int × Int => e (P q.1) (P q.2)) G := by
    rw [← lsum_neg]
    refine lsum_congr (fun q _ => ?_)
    exact he _ _
  omega


/-- of the boundary's edges one at most goes leftwards over a place -/
theorem rim_one {u v x y : Pt} {t : Int} (h1 : 0 ≤ sd u v x) (h2 : 0 ≤ sd u v y) (h3 : 0 ≤ sd x y u) (h4 : 0 ≤ sd x y v) (d1 : sd u v x = 0 → 0 ≤ dt u v x) (d2 : sd u v y = 0 → 0 ≤ dt u v y) (d3 : sd x y u = 0 → 0 ≤ dt x y u) (d4 : sd x y v = 0 → 0 ≤ dt x y v)
    (hu : t < u.1) (hv : v.1 ≤ t) (hx : t < x.1) (hy : y.1 ≤ t) : x = u ∧ y = v := by
  have aff : ∀ q : Pt, (x.1 - y.1) * sd u v q - (u.1 - v.1) * sd x y q = (x.1 - y.1) * sd u v u - (u.1 - v.1) * sd x y u + (q.1 - u.1) * ((v.2 - u.2) * (y.1 - x.1) - (y.2 - x.2) * (v.1 - u.1)) := by
    intro q; unfold sd; grind
  have hD : 0 < u.1 - v.1 := by omega
  have hE : 0 < x.1 - y.1 := by omega
  have ax := aff x
  have ay := aff y
  have av := aff v
  have z1 : sd u v u = 0 := sd_A u v
  have z2 : sd u v v = 0 := sd_B u v
  have z3 : sd x y x = 0 := sd_A x y
  have z4 : sd x y y = 0 := sd_B x y
  rw [z1] at ax ay av
  rw [z3] at ax
  rw [z4] at ay
  rw [z2] at av
  have p1 := mnn (Int.le_of_lt hE) h1
  have p2 := mnn (Int.le_of_lt hE) h2
  have p3 := mnn (Int.le_of_lt hD) h3
  have p4 := mnn (Int.le_of_lt hD) h4
  generalize (v.2 - u.2) * (y.1 - x.1) - (y.2 - x.2) * (v.1 - u.1) = s at *
  simp only [Int.mul_zero, Int.zero_sub, Int.sub_zero] at ax ay av
  have hs : s = 0 := by
    rcases Int.lt_trichotomy s 0 with k | k | k
    · -- falling: at v against x
      have := mpm (show 0 < x.1 - v.1 by omega) k
      have e : (x.1 - u.1) * s - (v.1 - u.1) * s = (x.1 - v.1) * s := by grind
      omega
    · exact k
    · have := mmp (show y.1 - u.1 < 0 by omega) k
      omega
  subst hs
  simp only [Int.mul_zero, Int.add_zero] at ax ay av
  have c1 : sd u v x = 0 := dz hE (by omega)
  have c2 : sd u v y = 0 := dz hE (by omega)
  have c3 : sd x y u = 0 := dz hD (by omega)
  have c4 : sd x y v = 0 := dz hD (by omega)
  have huv : u ≠ v := fun e => by rw [e] at hu; omega
  have hL := len2_pos huv
  have f1 := dt_line u v u v x
  have f2 := dt_line u v u v y
  have f3 := dt_line u v x y u
  have f4 := dt_line u v x y v
  rw [tau_A, tau_B, sd_A, sd_B, c1] at f1
  rw [tau_A, tau_B, sd_A, sd_B, c2] at f2
  rw [tau_A, sd_A, c1, c2] at f3
  rw [tau_B, sd_B, c1, c2] at f4
  have g1 := mnn (Int.le_of_lt hL) (d1 c1)
  have g2 := mnn (Int.le_of_lt hL) (d2 c2)
  have g3 := mnn (Int.le_of_lt hL) (d3 c3)
  have g4 := mnn (Int.le_of_lt hL) (d4 c4)
  have lx := line_x u v x
  have ly := line_x u v y
  rw [c1] at lx
  rw [c2] at ly
  have q1 : tau u v x < len2 u v := by
    rcases Int.lt_or_le (tau u v x) (len2 u v) with k | k
    · exact k
    · have e : len2 u v * (x.1 - v.1) = (tau u v x - len2 u v) * (v.1 - u.1) := by grind
      have := mpp hL (show 0 < x.1 - v.1 by omega)
      have := mnq (show 0 ≤ tau u v x - len2 u v by omega) (show v.1 - u.1 ≤ 0 by omega)
      omega
  have q2 : 0 < tau u v y := by
    rcases Int.lt_or_le 0 (tau u v y) with k | k
    · exact k
    · have := mpm hL (show y.1 - u.1 < 0 by omega)
      have := mqq k (show v.1 - u.1 ≤ 0 by omega)
      grind
  have tx : tau u v x = 0 := by
    have e1 : tau u v x ≤ 0 := by
      rcases Int.lt_or_le 0 (tau u v x) with k | k
      · have := mpm k (show tau u v x - len2 u v < 0 by omega)
        grind
      · exact k
    rcases Int.lt_or_le (tau u v x) 0 with k | k
    · have := mmp k q2
      grind
    · omega
  have ty : tau u v y = len2 u v := by
    have e1 : len2 u v ≤ tau u v y := by
      rcases Int.lt_or_le (tau u v y) (len2 u v) with k | k
      · have := mpm q2 (show tau u v y - len2 u v < 0 by omega)
        grind
      · exact k
    rcases Int.lt_or_le (len2 u v) (tau u v y) with k | k
    · have := mpm hL (show len2 u v - tau u v y < 0 by omega)
      rw [tx] at f4
      grind
    · omega
  exact ⟨tau_inj huv c1 (sd_A u v) (by rw [tx, tau_A]), tau_inj huv c2 (sd_B u v) (by rw [ty, tau_B])⟩

/-- a place lies in one triangle at most -/
theorem NetOf.one (N : NetOf P S a b c Tr) (hS : S.Nodup) {ts : List (Int × Int × Int)} (hts : ts.Nodup) (hmem : ∀ x y z, (x, y, z) ∈ ts ↔ Tr x y z ∧ 0 ≤ x ∧ x < y ∧ x < z) (p : Pt)
    {t t' : Int × Int × Int} (h : t ∈ ts) (h' : t' ∈ ts) (k : 1 ≤ inT p (P t.1) (P t.2.1) (P t.2.2)) (k' : 1 ≤ inT p (P t'.1) (P t'.2.1) (P t'.2.2)) : t = t' := by
  refine Classical.byContradiction fun hne => ?_
  generalize hGe : (pairs S).filter (fun q => decide (Tr q.1 q.2 (-1))) = G
  have hG : G.Nodup := by rw [← hGe]; exact (nodup_pairs hS).filter _
  have hGm : ∀ x y, (x, y) ∈ G ↔ Tr x y (-1) := by
    intro x y
    rw [← hGe, List.mem_filter, decide_eq_true_eq, mem_pairs]
    exact ⟨fun h => h.2, fun h => ⟨N.ghost_mem h, h⟩⟩
  have e := N.sum_ts (ov p) (ov_swap p) hS ts hts hmem G hG hGm
  have h2 : 2 ≤ lsum (fun t : Int × Int × Int => ov p (P t.1) (P t.2.1) + ov p (P t.2.1) (P t.2.2) + ov p (P t.2.2) (P t.1)) ts := by
    refine lsum_two (fun x hx => ?_) h h' hne k k'
    obtain ⟨x, y, z⟩ := x
    obtain ⟨ht, h0, h1, h2⟩ := (hmem x y z).1 hx
    exact inT_nonneg p _ _ _ (N.side ht (N.mem ht h0) (N.mem (N.rot ht) (show 0 ≤ y by omega)) (N.mem (N.rot (N.rot ht)) (show 0 ≤ z by omega)))
  have h1 : lsum (fun q : Int × Int => ov p (P q.2) (P q.1)) G ≤ 1 := by
    refine lsum_le_one hG (fun q _ => ov_le _ _ _) ?_
    rintro ⟨x, y⟩ hq ⟨x', y'⟩ hq' o o'
    have b := N.bnd_of ((hGm x y).1 hq)
    have b' := N.bnd_of ((hGm x' y').1 hq')
    obtain ⟨m1, m2, _, B⟩ := b
    obtain ⟨m1', m2', _, B'⟩ := b'
    obtain ⟨i1, i2⟩ := ov_pos o
    obtain ⟨i3, i4⟩ := ov_pos o'
    obtain ⟨r1, r2⟩ := rim_one (B y' m1').1 (B x' m2').1 (B' y m1).1 (B' x m2).1 (B y' m1').2 (B x' m2').2 (B' y m1).2 (B' x m2).2 i1 i2 i3 i4
    have := N.inj y' m1' y m1 r1
    have := N.inj x' m2' x m2 r2
    simp only at *
    rw [Prod.mk.injEq]
    omega
  omega
end

end Go.Proofs.YtgpapegpdfonpaaGreatDoor

namespace Go.Proofs.YtgpapegpdfonpaaGreatDoor
set_option linter.unusedVariables false
set_option linter.unusedSimpArgs false

/-- strictly between two points -/
def onSeg (p A B : Pt) : Prop := sd A B p = 0 ∧ dt A B p < 0
theorem onSeg.ne {p A B : Pt} (h : onSeg p A B) : A ≠ B := by
  rintro rfl
  obtain ⟨_, h⟩ := h
  have : 0 ≤ dt A A p := by
    unfold dt
    have := sq_nonneg (p.1 - A.1)
    have := sq_nonneg (p.2 - A.2)
    omega
  omega
theorem onSeg.symm {p A B : Pt} (h : onSeg p A B) : onSeg p B A := by
  obtain ⟨h1, h2⟩ := h
  refine ⟨by rw [sd_flip]; omega, ?_⟩
  have : dt B A p = dt A B p := by unfold dt; grind
  omega
/-- strictly within a triangle -/
def within (p A B C : Pt) : Prop := 0 < sd A B p ∧ 0 < sd B C p ∧ 0 < sd C A p
theorem within.turn {p A B C : Pt} (h : within p A B C) : within p B C A := ⟨h.2.1, h.2.2, h.1⟩
theorem aff (a b c p u v : Pt) : sd a b c * sd u v p = sd b c p * sd u v a + sd c a p * sd u v b + sd a b p * sd u v c := by unfold sd; grind
theorem within_off {a b c p u v : Pt} (huv : u ≠ v) (h : within p a b c) (ha : sd u v a ≤ 0) (hb : sd u v b ≤ 0) (hc : sd u v c ≤ 0) : sd u v p ≠ 0 := by
  intro h0
  obtain ⟨h1, h2, h3⟩ := h
  have e := aff a b c p u v
  rw [h0, Int.mul_zero] at e
  have k1 := mnq (Int.le_of_lt h2) ha
  have k2 := mnq (Int.le_of_lt h3) hb
  have k3 := mnq (Int.le_of_lt h1) hc
  have z1 := dz h2 (show sd b c p * sd u v a = 0 by omega)
  have z2 := dz h3 (show sd c a p * sd u v b = 0 by omega)
  have z3 := dz h1 (show sd a b p * sd u v c = 0 by omega)
  have := col3 huv z1 z2 z3
  have := (bary a b c p).2.2
  omega
/-- what lies between two points lies on a line only if both do, where both lie on one side of it -/
theorem seg_on {A B p u v : Pt} (h : onSeg p A B) (h0 : sd u v p = 0) (hA : sd u v A ≤ 0) (hB : sd u v B ≤ 0) : sd u v A = 0 ∧ sd u v B = 0 := by
  obtain ⟨r1, r2⟩ := mid_range h.ne h.1 h.2
  have hL := len2_pos h.ne
  have e : len2 A B * sd u v p = (len2 A B - tau A B p) * sd u v A + tau A B p * sd u v B + sd A B p * ((v.1 - u.1) * (B.1 - A.1) + (v.2 - u.2) * (B.2 - A.2)) := by unfold len2 tau sd; grind
  rw [h0, h.1, Int.mul_zero, Int.zero_mul, Int.add_zero] at e
  have k1 := mnq (show 0 ≤ len2 A B - tau A B p by omega) hA
  have k2 := mnq (Int.le_of_lt r1) hB
  exact ⟨dz (show 0 < len2 A B - tau A B p by omega) (by omega), dz r1 (by omega)⟩
/-- two stretches of a line, none with an end within the other, that share a place -/
theorem seg_same {A B C D p : Pt} (h : onSeg p A B) (hCD : onSeg p C D) (c1 : sd A B C = 0) (c2 : sd A B D = 0) (d1 : 0 ≤ dt A B C) (d2 : 0 ≤ dt A B D) (d3 : 0 ≤ dt C D A) (d4 : 0 ≤ dt C D B) : (C = A ∧ D = B) ∨ (C = B ∧ D = A) := by
  obtain ⟨r1, r2⟩ := mid_range h.ne h.1 h.2
  have hAB := h.ne
  have hL := len2_pos hAB
  have f1 := dt_line A B A B C
  have f2 := dt_line A B A B D
  have f3 := dt_line A B C D A
  have f4 := dt_line A B C D B
  have f5 := dt_line A B C D p
  rw [tau_A, tau_B, sd_A, sd_B, c1] at f1
  rw [tau_A, tau_B, sd_A, sd_B, c2] at f2
  rw [tau_A, sd_A, c1, c2] at f3
  rw [tau_B, sd_B, c1, c2] at f4
  rw [c1, c2, h.1] at f5
  have g1 := mnn (Int.le_of_lt hL) d1
  have g2 := mnn (Int.le_of_lt hL) d2
  have g3 := mnn (Int.le_of_lt hL) d3
  have g4 := mnn (Int.le_of_lt hL) d4
  have g5 := mpm hL hCD.2
  have inj : ∀ {X Y : Pt}, sd A B X = 0 → sd A B Y = 0 → tau A B X = tau A B Y → X = Y := fun h1 h2 h3 => tau_inj hAB h1 h2 h3
  have key : ∀ {s t r L : Int}, 0 < r → r < L → 0 ≤ s * (s - L) → 0 ≤ t * (t - L) → 0 ≤ (0 - s) * (0 - t) → 0 ≤ (L - s) * (L - t) → s < r → r < t → s = 0 ∧ t = L := by
    intro s t r L r1 r2 g1 g2 g3 g4 h1 h2
    have s0 : s ≤ 0 := by
      rcases Int.lt_or_le 0 s with k | k
      · have := mpm k (show s - L < 0 by omega); omega
      · exact k
    have tL : L ≤ t := by
      rcases Int.lt_or_le t L with k | k
      · have := mpm (show 0 < t by omega) (show t - L < 0 by omega); omega
      · exact k
    constructor
    · rcases Int.lt_or_le s 0 with k | k
      · have := mpm (show 0 < 0 - s by omega) (show 0 - t < 0 by omega); omega
      · omega
    · rcases Int.lt_or_le L t with k | k
      · have := mpm (show 0 < L - s by omega) (show L - t < 0 by omega); omega
      · omega
  generalize hs : tau A B C = s at *
  generalize ht : tau A B D = t at *
  generalize hr : tau A B p = r at *
  generalize hLL : len2 A B = L at *
  have e1 : 0 ≤ s * (s - L) := by grind
  have e2 : 0 ≤ t * (t - L) := by grind
  have e3 : 0 ≤ (0 - s) * (0 - t) := by grind
  have e4 : 0 ≤ (L - s) * (L - t) := by grind
  have e5 : (r - s) * (r - t) < 0 := by grind
  have hB : tau A B B = L := by rw [tau_B, hLL]
  rcases Int.lt_or_le s r with k | k
  · have k2 : r < t := by
      rcases Int.lt_or_le r t with k2 | k2
      · exact k2
      · have := mnn (show 0 ≤ r - s by omega) (show 0 ≤ r - t by omega); omega
    obtain ⟨a1, a2⟩ := key r1 r2 e1 e2 e3 e4 k k2
    exact .inl ⟨inj c1 (sd_A A B) (by rw [hs, tau_A, a1]), inj c2 (sd_B A B) (by rw [ht, hB, a2])⟩
  · have k0 : s ≠ r := fun e => by rw [e, Int.sub_self, Int.zero_mul] at e5; omega
    have k2 : t < r := by
      rcases Int.lt_or_le t r with k2 | k2
      · exact k2
      · have := mqq (show r - s ≤ 0 by omega) (show r - t ≤ 0 by omega); omega
    obtain ⟨a1, a2⟩ := key r1 r2 e2 e1 (by rw [Int.mul_comm]; exact e3) (by rw [Int.mul_comm]; exact e4) k2 (by omega)
    exact .inr ⟨inj c1 (sd_B A B) (by rw [hs, hB, a2]), inj c2 (sd_A A B) (by rw [ht, tau_A, a1])⟩

section
variable {P : Int → Pt} {S : List Int} {a b c : Int} {Tr : Int → Int → Int → Prop} {ts : List (Int × Int × Int)}
theorem NetOf.told (N : NetOf P S a b c Tr) (hmem : ∀ x y z, (x, y, z) ∈ ts ↔ Tr x y z ∧ 0 ≤ x ∧ x < y ∧ x < z) {x y z : Int} (h : Tr x y z) (hx : x ∈ S) (hy : y ∈ S) (hz : z ∈ S) : (x, y, z) ∈ ts ∨ (y, z, x) ∈ ts ∨ (z, x, y) ∈ ts := by
  obtain ⟨n1, n2, n3⟩ := N.ne3 h
  have h0 := N.nn x hx
  have h1 := N.nn y hy
  have h2 := N.nn z hz
  have t2 := N.rot h
  have t3 := N.rot t2
  rw [hmem, hmem, hmem]
  by_cases k1 : x < y <;> by_cases k2 : x < z <;> by_cases k3 : y < z
  · exact .inl ⟨h, h0, k1, k2⟩
  · exact .inl ⟨h, h0, k1, k2⟩
  · omega
  · exact .inr (.inr ⟨t3, h2, by omega, by omega⟩)
  · exact .inr (.inl ⟨t2, h1, by omega, by omega⟩)
  · omega
  · exact .inr (.inl ⟨t2, h1, by omega, by omega⟩)
  · exact .inr (.inr ⟨t3, h2, by omega, by omega⟩)
/-- the triangle that has what lies on an edge, or the edge is one of the boundary -/
theorem NetOf.seg (N : NetOf P S a b c Tr) {x y w : Int} (h : Tr x y w) (hx : x ∈ S) (hy : y ∈ S) {p : Pt} (hp : onSeg p (P x) (P y)) :
    ∃ u v, ((u = x ∧ v = y) ∨ (u = y ∧ v = x)) ∧ onSeg p (P u) (P v) ∧ u ∈ S ∧ v ∈ S ∧ ((∃ z ∈ S, Tr u v z ∧ 1 ≤ inT p (P u) (P v) (P z)) ∨ Tr u v (-1)) := by
  have key : ∀ u v w, Tr u v w → u ∈ S → v ∈ S → onSeg p (P u) (P v) → cnt (P u) (P v) → (∃ z ∈ S, Tr u v z ∧ 1 ≤ inT p (P u) (P v) (P z)) ∨ Tr u v (-1) := by
    intro u v w h hu hv hs hc
    rcases N.lab (N.rot (N.rot h)) with e | e
    · right; rw [← e]; exact h
    · exact .inl ⟨w, e, h, inT_edge (N.side h hu hv e) hs.1 hs.2 hc⟩
  rcases cnt_or hp.ne with k | k
  · exact ⟨x, y, .inl ⟨rfl, rfl⟩, hp, hx, hy, key x y w h hx hy hp k⟩
  · obtain ⟨w', h'⟩ := N.pair h
    exact ⟨y, x, .inr ⟨rfl, rfl⟩, hp.symm, hy, hx, key y x w' h' hy hx hp.symm k⟩
theorem NetOf.same_tri (N : NetOf P S a b c Tr) (hS : S.Nodup) (hts : ts.Nodup) (hmem : ∀ x y z, (x, y, z) ∈ ts ↔ Tr x y z ∧ 0 ≤ x ∧ x < y ∧ x < z) {p : Pt} {x y z x' y' z' : Int} (h : Tr x y z) (hx : x ∈ S) (hy : y ∈ S) (hz : z ∈ S) (h' : Tr x' y' z') (hx' : x' ∈ S) (hy' : y' ∈ S) (hz' : z' ∈ S)
    (k : 1 ≤ inT p (P x) (P y) (P z)) (k' : 1 ≤ inT p (P x') (P y') (P z')) : (x' = x ∧ y' = y ∧ z' = z) ∨ (x' = y ∧ y' = z ∧ z' = x) ∨ (x' = z ∧ y' = x ∧ z' = y) := by
  have r : ∀ {q u v : Int}, 1 ≤ inT p (P q) (P u) (P v) → 1 ≤ inT p (P u) (P v) (P q) := fun h => by rw [inT_rot]; exact h
  have one := fun {t t' : Int × Int × Int} h h' k k' => N.one hS hts hmem p (t := t) (t' := t') h h' k k'
  rcases N.told hmem h hx hy hz with m | m | m <;> rcases N.told hmem h' hx' hy' hz' with m' | m' | m'
  · have e := one m m' k k'; simp only [Prod.mk.injEq] at e; omega
  · have e := one m m' k (r k'); simp only [Prod.mk.injEq] at e; omega
  · have e := one m m' k (r (r k')); simp only [Prod.mk.injEq] at e; omega
  · have e := one m m' (r k) k'; simp only [Prod.mk.injEq] at e; omega
  · have e := one m m' (r k) (r k'); simp only [Prod.mk.injEq] at e; omega
  · have e := one m m' (r k) (r (r k')); simp only [Prod.mk.injEq] at e; omega
  · have e := one m m' (r (r k)) k'; simp only [Prod.mk.injEq] at e; omega
  · have e := one m m' (r (r k)) (r k'); simp only [Prod.mk.injEq] at e; omega
  · have e := one m m' (r (r k)) (r (r k')); simp only [Prod.mk.injEq] at e; omega
/-- what lies on an edge lies within no triangle -/
theorem NetOf.seg_out (N : NetOf P S a b c Tr) (hS : S.Nodup) (hts : ts.Nodup) (hmem : ∀ x y z, (x, y, z) ∈ ts ↔ Tr x y z ∧ 0 ≤ x ∧ x < y ∧ x < z) {p : Pt} {x y w : Int} (h : Tr x y w) (hx : x ∈ S) (hy : y ∈ S) (hp : onSeg p (P x) (P y))
    {q r s : Int} (ht : Tr q r s) (hq : q ∈ S) (hr : r ∈ S) (hs : s ∈ S) : ¬ within p (P q) (P r) (P s) := by
  intro hw
  obtain ⟨u, v, _, hp, hu, hv, hz⟩ := N.seg h hx hy hp
  rcases hz with ⟨z, hz, hT, hi⟩ | hg
  · have k := inT_in p _ _ _ hw
    obtain ⟨w1, w2, w3⟩ := hw
    have := hp.1
    rcases N.same_tri hS hts hmem ht hq hr hs hT hu hv hz k hi with ⟨rfl, rfl, rfl⟩ | ⟨rfl, rfl, rfl⟩ | ⟨rfl, rfl, rfl⟩ <;> omega
  · exact within_off hp.ne hw (N.ghost hg hq).1 (N.ghost hg hr).1 (N.ghost hg hs).1 hp.1
/-- what lies on two edges: they are one -/
theorem NetOf.seg_one (N : NetOf P S a b c Tr) (hS : S.Nodup) (hts : ts.Nodup) (hmem : ∀ x y z, (x, y, z) ∈ ts ↔ Tr x y z ∧ 0 ≤ x ∧ x < y ∧ x < z) {p : Pt} {x y w x' y' w' : Int} (h : Tr x y w) (hx : x ∈ S) (hy : y ∈ S) (hp : onSeg p (P x) (P y))
    (h' : Tr x' y' w') (hx' : x' ∈ S) (hy' : y' ∈ S) (hp' : onSeg p (P x') (P y')) : (x' = x ∧ y' = y) ∨ (x' = y ∧ y' = x) := by
  have ghost : ∀ {u v u' v' w' : Int}, Tr u v (-1) → u ∈ S → v ∈ S → onSeg p (P u) (P v) → Tr u' v' w' → u' ∈ S → v' ∈ S → onSeg p (P u') (P v') → (u' = u ∧ v' = v) ∨ (u' = v ∧ v' = u) := by
    intro u v u' v' w' hg hu hv hp hT hu' hv' hp'
    obtain ⟨g1, g2⟩ := N.ghost hg hu'
    obtain ⟨g3, g4⟩ := N.ghost hg hv'
    obtain ⟨z1, z2⟩ := seg_on hp' hp.1 g1 g3
    have hne := hp.ne
    have y1 : sd (P u') (P v') (P u) = 0 := col3 hne z1 z2 (sd_A _ _)
    have y2 : sd (P u') (P v') (P v) = 0 := col3 hne z1 z2 (sd_B _ _)
    rcases seg_same hp hp' z1 z2 (g2 z1) (g4 z2) (N.edge_dt hu' hv' hu hT y1) (N.edge_dt hu' hv' hv hT y2) with ⟨e1, e2⟩ | ⟨e1, e2⟩
    · exact .inl ⟨N.inj _ hu' _ hu e1, N.inj _ hv' _ hv e2⟩
    · exact .inr ⟨N.inj _ hu' _ hv e1, N.inj _ hv' _ hu e2⟩
  obtain ⟨u, v, e, hpu, hu, hv, hz⟩ := N.seg h hx hy hp
  obtain ⟨u', v', e', hpu', hu', hv', hz'⟩ := N.seg h' hx' hy' hp'
  have fin : (u' = u ∧ v' = v) ∨ (u' = v ∧ v' = u) := by
    rcases hz with ⟨z, hz, hT, hi⟩ | hg
    · rcases hz' with ⟨z', hz', hT', hi'⟩ | hg'
      · obtain ⟨m1, m2⟩ := mid_sides hpu.ne hpu.1 hpu.2 (N.side hT hu hv hz)
        have := hpu'.1
        rcases N.same_tri hS hts hmem hT hu hv hz hT' hu' hv' hz' hi hi' with ⟨rfl, rfl, rfl⟩ | ⟨rfl, rfl, rfl⟩ | ⟨rfl, rfl, rfl⟩
        · exact .inl ⟨rfl, rfl⟩
        · omega
        · omega
      · rcases ghost hg' hu' hv' hpu' hT hu hv hpu with ⟨r1, r2⟩ | ⟨r1, r2⟩
        · exact .inl ⟨r1.symm, r2.symm⟩
        · exact .inr ⟨r2.symm, r1.symm⟩
    · rcases hz' with ⟨z', hz', hT', hi'⟩ | hg'
      · exact ghost hg hu hv hpu hT' hu' hv' hpu'
      · exact ghost hg hu hv hpu hg' hu' hv' hpu'
  clear hz hz' ghost
  omega
end

/-- where a place lies, by triangles -/
structure Tile (l : List Pt) (ts : List T3) : Prop where
  one : ∀ (p : Pt) (t t' : T3), t ∈ ts → t' ∈ ts → within p (pOf l t.1) (pOf l t.2.1) (pOf l t.2.2) → within p (pOf l t'.1) (pOf l t'.2.1) (pOf l t'.2.2) → t = t'
  mid : ∀ (p : Pt) (x y : Int), goneP ts x y → onSeg p (pOf l x) (pOf l y) → ∀ t ∈ ts, ¬ within p (pOf l t.1) (pOf l t.2.1) (pOf l t.2.2)
  edge : ∀ (p : Pt) (x y x' y' : Int), goneP ts x y → goneP ts x' y' → onSeg p (pOf l x) (pOf l y) → onSeg p (pOf l x') (pOf l y') → (x' = x ∧ y' = y) ∨ (x' = y ∧ y' = x)
theorem pw_nodup {ts : List T3} (hp : ts.Pairwise t3lt) : ts.Nodup := by
  refine hp.imp ?_
  rintro s t h rfl
  obtain ⟨x, y, z⟩ := s
  unfold t3lt at h
  omega
theorem tile_of {l : List Pt} {is : List Nat} {t p q r : Nat} {ts : List T3} (hio : InOrder l is) (hnd : l.Nodup) (hn : AllNear l) (BS : Base l is t p q r)
    (hm : ∀ x y z, (x, y, z) ∈ ts ↔ trAt l is t p q r is.length x y z ∧ 0 ≤ x ∧ x < y ∧ x < z) (hp : ts.Pairwise t3lt) : Tile l ts := by
  obtain ⟨N, hSn, hSr⟩ := net_at hio hnd hn BS is.length (Nat.le_refl _)
  clear BS
  generalize sAt is t p q r is.length = S at *
  generalize trAt l is t p q r is.length = Tr at *
  have htn := pw_nodup hp
  have real : ∀ t ∈ ts, Tr t.1 t.2.1 t.2.2 ∧ t.1 ∈ S ∧ t.2.1 ∈ S ∧ t.2.2 ∈ S := by
    rintro ⟨x, y, z⟩ ht
    obtain ⟨h, h0, h1, h2⟩ := (hm x y z).1 ht
    exact ⟨h, N.mem h h0, N.mem (N.rot h) (show 0 ≤ y by omega), N.mem (N.rot (N.rot h)) (show 0 ≤ z by omega)⟩
  have gone : ∀ x y, goneP ts x y → ∃ w, Tr x y w ∧ x ∈ S ∧ y ∈ S := by
    rintro x y ⟨t, ht, k, hk, e1, e2⟩
    obtain ⟨h, a1, a2, a3⟩ := real t ht
    have hk3 : k = 0 ∨ k = 1 ∨ k = 2 := by omega
    rcases hk3 with rfl | rfl | rfl <;> simp only [Nat.zero_add, Nat.reduceAdd, Nat.reduceMod, nth3_0, nth3_1, nth3_2] at e1 e2 <;> subst e1 e2
    · exact ⟨_, h, a1, a2⟩
    · exact ⟨_, N.rot h, a2, a3⟩
    · exact ⟨_, N.rot (N.rot h), a3, a1⟩
  refine ⟨fun p t t' h h' w w' => N.one hSn htn hm p h h' (inT_in p _ _ _ w) (inT_in p _ _ _ w'), fun p x y hg hs t ht => ?_, fun p x y x' y' hg hg' hs hs' => ?_⟩
  · obtain ⟨w, h, hx, hy⟩ := gone x y hg
    obtain ⟨h', a1, a2, a3⟩ := real t ht
    exact N.seg_out hSn htn hm h hx hy hs h' a1 a2 a3
  · obtain ⟨w, h, hx, hy⟩ := gone x y hg
    obtain ⟨w', h', hx', hy'⟩ := gone x' y' hg'
    exact N.seg_one hSn htn hm h hx hy hs h' hx' hy' hs'

end Go.Proofs.YtgpapegpdfonpaaGreatDoor

namespace Go.Proofs.YtgpapegpdfonpaaGreatDoor
set_option linter.unusedVariables false
set_option linter.unusedSimpArgs false
open Go.RowKit
/-- the distance, squared, of any numbers: as 64 bits tell it -/
def dW (a b : Pt) : Int := wrap64 (wrap64 (wrap64 (a.1 - b.1) * wrap64 (a.1 - b.1)) + wrap64 (wrap64 (a.2 - b.2) * wrap64 (a.2 - b.2)))
theorem w64_id {n : Int} (h1 : -9223372036854775808 ≤ n) (h2 : n ≤ 9223372036854775807) : wrap64 n = n := by unfold wrap64; omega
theorem dW_near {a b : Pt} (ha : Near a.1 a.2) (hb : Near b.1 b.2) : dW a b = dst a b := by
  obtain ⟨a1, a2, a3, a4⟩ := ha
  obtain ⟨b1, b2, b3, b4⟩ := hb
  have m1 := @mul_bd (a.1 - b.1) (a.1 - b.1) 16000 16000 (by omega) (by omega) (by omega) (by omega)
  have m2 := @mul_bd (a.2 - b.2) (a.2 - b.2) 16000 16000 (by omega) (by omega) (by omega) (by omega)
  unfold dW dst
  rw [w64_id (n := a.1 - b.1) (by omega) (by omega), w64_id (n := a.2 - b.2) (by omega) (by omega), w64_id (n := (a.1 - b.1) * (a.1 - b.1)) (by omega) (by omega), w64_id (n := (a.2 - b.2) * (a.2 - b.2)) (by omega) (by omega), w64_id (by omega) (by omega)]
/-- the place of the nearest among the first k; -1: none -/
def bestW (l : List Pt) (p : Pt) : Nat → Int
  | 0 => -1
  | k + 1 => if bestW l p k < 0 ∨ dW (ptAt l k) p < dW (pOf l (bestW l p k)) p then (k : Int) else bestW l p k
theorem bestW_bd (l : List Pt) (p : Pt) : ∀ k, 0 < k → 0 ≤ bestW l p k ∧ bestW l p k < k
  | 0, h => by omega
  | 1, _ => by simp [bestW]
  | k + 2, _ => by
    have := bestW_bd l p (k + 1) (by omega)
    rw [bestW]
    split <;> omega
theorem bestW_min {l : List Pt} {p : Pt} (hn : AllNear l) (hp : Near p.1 p.2) : ∀ k, 0 < k → k ≤ l.length → ∃ m : Nat, bestW l p k = (m : Int) ∧ m < k ∧ (∀ j, j < k → dst (ptAt l m) p ≤ dst (ptAt l j) p) ∧ ∀ j, j < m → dst (ptAt l m) p < dst (ptAt l j) p
  | 0, h, _ => by omega
  | 1, _, _ => ⟨0, by simp [bestW], by omega, (fun j hj => by
      have e : j = 0 := by omega
      rw [e]; exact Int.le_refl _), fun j hj => by omega⟩
  | k + 2, _, hk => by
    obtain ⟨m, e, hm, h1, h2⟩ := bestW_min hn hp (k + 1) (by omega) (by omega)
    have nk : Near (ptAt l (k + 1)).1 (ptAt l (k + 1)).2 := hn (k + 1) (by omega)
    have nm : Near (ptAt l m).1 (ptAt l m).2 := hn m (by omega)
    have pm : pOf l (m : Int) = ptAt l m := by unfold pOf; rw [Int.toNat_natCast]
    rw [bestW, e, pm, dW_near nk hp, dW_near nm hp]
    by_cases h : (m : Int) < 0 ∨ dst (ptAt l (k + 1)) p < dst (ptAt l m) p
    · rw [if_pos h]
      have h : dst (ptAt l (k + 1)) p < dst (ptAt l m) p := h.resolve_left (by omega)
      refine ⟨k + 1, rfl, by omega, fun j hj => ?_, fun j hj => ?_⟩
      · by_cases ej : j = k + 1
        · subst ej; exact Int.le_refl _
        · have := h1 j (by omega); omega
      · have := h1 j (by omega); omega
    · rw [if_neg h]
      refine ⟨m, rfl, by omega, fun j hj => ?_, h2⟩
      by_cases ej : j = k + 1
      · subst ej; omega
      · exact h1 j (by omega)

def placeN : List Int → Int → Int
  | [], _ => -1
  | m :: r, n => if m = n then 0 else if placeN r n < 0 then -1 else placeN r n + 1
theorem placeN_none {n : Int} : ∀ {l : List Int}, n ∉ l → placeN l n = -1
  | [], _ => rfl
  | m :: r, h => by
    simp only [List.mem_cons, not_or] at h
    rw [placeN, if_neg (fun e => h.1 e.symm), placeN_none h.2, if_pos (by omega)]
theorem placeN_first {n : Int} : ∀ {l : List Int} {k : Nat}, k < l.length → (∀ j, j < k → l.getD j 0 ≠ n) → l.getD k 0 = n → placeN l n = k
  | [], k, h, _, _ => by simp at h
  | m :: r, 0, _, _, e => by
    rw [placeN, if_pos (by simpa using e)]; rfl
  | m :: r, k + 1, h, h1, e => by
    have h0 := h1 0 (by omega)
    have := placeN_first (l := r) (k := k) (by simpa using h) (fun j hj => by simpa using h1 (j + 1) (by omega)) (by simpa using e)
    rw [placeN, if_neg (by simpa using h0), this, if_neg (by omega)]
    omega
def hasB (t : T3) (n : Int) : Bool := t.1 == n || t.2.1 == n || t.2.2 == n
def freeB (l : List Pt) (a b k : Nat) : Bool := (List.range k).all fun c => c == a || c == b || decide (0 ≤ dt (ptAt l a) (ptAt l b) (ptAt l c))
def joinB (l : List Pt) (ts : List T3) (fl : Bool) (a b : Nat) : Bool := (fl && freeB l a b l.length) || ts.any fun t => hasB t a && hasB t b
def rowJ (l : List Pt) (ts : List T3) (fl : Bool) (a b : Nat) : List (Nat × Nat) := ((List.range b).filter fun b' => decide (a < b') && joinB l ts fl a b').map fun b' => (a, b')
def allJ (l : List Pt) (ts : List T3) (fl : Bool) (a : Nat) : List (Nat × Nat) := (List.range a).flatMap fun a' => rowJ l ts fl a' l.length
theorem mem_allJ {l : List Pt} {ts : List T3} {fl : Bool} {n a b : Nat} : (a, b) ∈ allJ l ts fl n ↔ a < n ∧ a < b ∧ b < l.length ∧ joinB l ts fl a b = true := by
  simp only [allJ, rowJ, List.mem_flatMap, List.mem_map, List.mem_filter, List.mem_range, Bool.and_eq_true, decide_eq_true_eq, Prod.mk.injEq]
  constructor
  · rintro ⟨a', h1, b', ⟨h2, h3, h4⟩, rfl, rfl⟩
    exact ⟨h1, h3, h2, h4⟩
  · rintro ⟨h1, h2, h3, h4⟩
    exact ⟨a, h1, b, ⟨h3, h2, h4⟩, rfl, rfl⟩
def inTri (l : List Pt) (p : Pt) (t : T3) : Prop := within p (pOf l t.1) (pOf l t.2.1) (pOf l t.2.2)
/-- where a place lies, told by triangles and by what is joined -/
def LocP (l : List Pt) (ts : List T3) (J : List (Nat × Nat)) (p : Pt) (k a b c : Int) : Prop :=
  (∃ i : Nat, i < l.length ∧ ptAt l i = p ∧ k = 3 ∧ a = i ∧ b = -1 ∧ c = -1) ∨
  ((∀ i, i < l.length → ptAt l i ≠ p) ∧ ∃ q ∈ J, onSeg p (ptAt l q.1) (ptAt l q.2) ∧ k = 2 ∧ a = q.1 ∧ b = q.2 ∧ c = -1) ∨
  ((∀ i, i < l.length → ptAt l i ≠ p) ∧ (∀ q ∈ J, ¬ onSeg p (ptAt l q.1) (ptAt l q.2)) ∧ ∃ t ∈ ts, inTri l p t ∧ k = 1 ∧ a = t.1 ∧ b = t.2.1 ∧ c = t.2.2) ∨
  ((∀ i, i < l.length → ptAt l i ≠ p) ∧ (∀ q ∈ J, ¬ onSeg p (ptAt l q.1) (ptAt l q.2)) ∧ (∀ t ∈ ts, ¬ inTri l p t) ∧ k = 0 ∧ a = -1 ∧ b = -1 ∧ c = -1)

def FlatP (l : List Pt) : Prop := ∀ i, 2 ≤ i → i < l.length → sd (ptAt l 0) (ptAt l 1) (ptAt l i) = 0
/-- a triangulation -/
def GoodT (l : List Pt) (ts : List T3) : Prop := ts.length ≤ 4000 ∧ ((FlatP l ∧ ts = []) ∨ (¬ FlatP l ∧ IsOk l ts ∧ Tile l ts ∧ ts ≠ []))
theorem good_of {l : List Pt} {ts : List T3} (hf : faultN l = 0) (hS : TriSpec l ts) (hl : ts.length ≤ 4000) : GoodT l ts := by
  obtain ⟨hl60, hfar, hnd⟩ := fault_zero hf
  have hnear := near_of_far hfar
  refine ⟨hl, ?_⟩
  obtain ⟨is, hio, hS⟩ := hS
  rcases hS with ⟨hall, h⟩ | ⟨t, p, q, r, BS, hm, hpw⟩
  · exact .inl ⟨fun i h2 hi => line_on hio hnd hall (by omega) (by omega) (by omega) hi, h⟩
  · have F := is_ok hio hnd hnear BS hm hpw
    obtain ⟨i, h1, h2, h3⟩ := F.off
    refine .inr ⟨fun hflat => h3 (hflat i h1 h2), F, tile_of hio hnd hnear BS hm hpw, fun e => ?_⟩
    obtain ⟨x, hx, _⟩ := (fill_ok hio hnd hnear (arr_of hio hnd) (cornersN_nodup hio hnd) BS hm hpw).used 0 (by omega)
    rw [e] at hx; cases hx
theorem GoodT.nums {l : List Pt} {ts : List T3} (h : GoodT l ts) : ∀ t ∈ ts, 0 ≤ t.1 ∧ t.1 < l.length ∧ 0 ≤ t.2.1 ∧ t.2.1 < l.length ∧ 0 ≤ t.2.2 ∧ t.2.2 < l.length := by
  rcases h.2 with ⟨_, rfl⟩ | ⟨_, F, _, _⟩
  · intro t ht; cases ht
  · intro t ht
    obtain ⟨⟨h1, h2, h3, h4, h5⟩, _⟩ := F.tri t ht
    omega
open Classical in
noncomputable def flB (l : List Pt) : Bool := decide (FlatP l)
open Classical in
theorem flB_iff (l : List Pt) : flB l = true ↔ FlatP l := by unfold flB; exact decide_eq_true_iff

theorem flat_all {l : List Pt} (hnd : l.Nodup) (h : FlatP l) {a b c : Nat} (ha : a < l.length) (hb : b < l.length) (hc : c < l.length) : sd (ptAt l a) (ptAt l b) (ptAt l c) = 0 := by
  by_cases h2 : 2 ≤ l.length
  · have h01 : ptAt l 0 ≠ ptAt l 1 := fun e => by have := ptAt_inj hnd (show 0 < l.length by omega) (show 1 < l.length by omega) e; omega
    have on : ∀ k, k < l.length → sd (ptAt l 0) (ptAt l 1) (ptAt l k) = 0 := fun k hk => by
      by_cases e0 : k = 0
      · subst e0; exact sd_A _ _
      · by_cases e1 : k = 1
        · subst e1; exact sd_B _ _
        · exact h k (by omega) hk
    exact col3 h01 (on a ha) (on b hb) (on c hc)
  · have e1 : a = 0 := by omega
    have e2 : b = 0 := by omega
    subst e1 e2
    unfold sd; grind
theorem has_gone {ts : List T3} {t : T3} (ht : t ∈ ts) {a b : Nat} (hne : a ≠ b) (ha : hasB t a = true) (hb : hasB t b = true) : goneP ts a b ∨ goneP ts b a := by
  unfold hasB at ha hb
  simp only [Bool.or_eq_true, beq_iff_eq] at ha hb
  have n0 : nth3 t 0 = t.1 := rfl
  have n1 : nth3 t 1 = t.2.1 := rfl
  have n2 : nth3 t 2 = t.2.2 := rfl
  rcases ha with (ha | ha) | ha <;> rcases hb with (hb | hb) | hb
  · omega
  · exact .inl ⟨t, ht, 0, by omega, by rw [n0, ha], by rw [show (0 + 1) % 3 = 1 from rfl, n1, hb]⟩
  · exact .inr ⟨t, ht, 2, by omega, by rw [n2, hb], by rw [show (2 + 1) % 3 = 0 from rfl, n0, ha]⟩
  · exact .inr ⟨t, ht, 0, by omega, by rw [n0, hb], by rw [show (0 + 1) % 3 = 1 from rfl, n1, ha]⟩
  · omega
  · exact .inl ⟨t, ht, 1, by omega, by rw [n1, ha], by rw [show (1 + 1) % 3 = 2 from rfl, n2, hb]⟩
  · exact .inl ⟨t, ht, 2, by omega, by rw [n2, ha], by rw [show (2 + 1) % 3 = 0 from rfl, n0, hb]⟩
  · exact .inr ⟨t, ht, 1, by omega, by rw [n1, hb], by rw [show (1 + 1) % 3 = 2 from rfl, n2, ha]⟩
  · omega
theorem free_dt {l : List Pt} {a b c : Nat} (h : freeB l a b l.length = true) (hc : c < l.length) : 0 ≤ dt (ptAt l a) (ptAt l b) (ptAt l c) := by
  unfold freeB at h
  rw [List.all_eq_true] at h
  have := h c (List.mem_range.2 hc)
  simp only [Bool.or_eq_true, beq_iff_eq, decide_eq_true_eq] at this
  rcases this with (rfl | rfl) | h
  · unfold dt; grind
  · unfold dt; grind
  · exact h

/-- an edge that has a place within: one alone -/
theorem edge_one {l : List Pt} {ts : List T3} (hnd : l.Nodup) (hG : GoodT l ts) {p : Pt} {q q' : Nat × Nat} (hq : q ∈ allJ l ts (flB l) l.length) (hq' : q' ∈ allJ l ts (flB l) l.length) (hs : onSeg p (ptAt l q.1) (ptAt l q.2)) (hs' : onSeg p (ptAt l q'.1) (ptAt l q'.2)) : q = q' := by
  obtain ⟨a, b⟩ := q
  obtain ⟨c, d⟩ := q'
  obtain ⟨h1, h2, h3, h4⟩ := mem_allJ.1 hq
  obtain ⟨k1, k2, k3, k4⟩ := mem_allJ.1 hq'
  simp only at hs hs'
  rcases hG.2 with ⟨hf, rfl⟩ | ⟨hf, _, T, _⟩
  · have e : flB l = true := (flB_iff l).2 hf
    rw [e] at h4 k4
    have f1 : freeB l a b l.length = true := by simpa [joinB] using h4
    have f2 : freeB l c d l.length = true := by simpa [joinB] using k4
    rcases seg_same hs hs' (flat_all hnd hf h1 h3 k1) (flat_all hnd hf h1 h3 k3) (free_dt f1 k1) (free_dt f1 k3) (free_dt f2 h1) (free_dt f2 h3) with ⟨e1, e2⟩ | ⟨e1, e2⟩
    · have := ptAt_inj hnd k1 h1 e1
      have := ptAt_inj hnd k3 h3 e2
      rw [Prod.mk.injEq]; omega
    · have := ptAt_inj hnd k1 h3 e1
      have := ptAt_inj hnd k3 h1 e2
      omega
  · have e : flB l = false := by
      cases hb : flB l with
      | false => rfl
      | true => exact absurd ((flB_iff l).1 hb) hf
    rw [e] at h4 k4
    unfold joinB at h4 k4
    rw [Bool.false_and, Bool.false_or, List.any_eq_true] at h4 k4
    obtain ⟨t, ht, hh⟩ := h4
    obtain ⟨t', ht', hh'⟩ := k4
    rw [Bool.and_eq_true] at hh hh'
    have key : ∀ {a b c d : Nat}, goneP ts a b → goneP ts c d → onSeg p (ptAt l a) (ptAt l b) → onSeg p (ptAt l c) (ptAt l d) → (c = a ∧ d = b) ∨ (c = b ∧ d = a) := fun g g' s s' => by
      have := T.edge p _ _ _ _ g g' (by rw [pOf_nat, pOf_nat]; exact s) (by rw [pOf_nat, pOf_nat]; exact s')
      omega
    rw [Prod.mk.injEq]
    rcases has_gone ht (by omega) hh.1 hh.2 with g | g <;> rcases has_gone ht' (by omega) hh'.1 hh'.2 with g' | g'
    · have := key g g' hs hs'; omega
    · have := key g g' hs hs'.symm; omega
    · have := key g g' hs.symm hs'; omega
    · have := key g g' hs.symm hs'.symm; omega

/-- where a place lies is told in one way -/
theorem loc_one {l : List Pt} {ts : List T3} (hnd : l.Nodup) (hG : GoodT l ts) {p : Pt} {k a b c k' a' b' c' : Int} (h : LocP l ts (allJ l ts (flB l) l.length) p k a b c) (h' : LocP l ts (allJ l ts (flB l) l.length) p k' a' b' c') : k = k' ∧ a = a' ∧ b = b' ∧ c = c' := by
  rcases h with ⟨i, hi, e, r1, r2, r3, r4⟩ | ⟨hno, q, hq, hs, r1, r2, r3, r4⟩ | ⟨hno, hj, t, ht, hin, r1, r2, r3, r4⟩ | ⟨hno, hj, hti, r1, r2, r3, r4⟩ <;>
  rcases h' with ⟨i', hi', e', s1, s2, s3, s4⟩ | ⟨hno', q', hq', hs', s1, s2, s3, s4⟩ | ⟨hno', hj', t', ht', hin', s1, s2, s3, s4⟩ | ⟨hno', hj', hti', s1, s2, s3, s4⟩
  · have := ptAt_inj hnd hi hi' (e.trans e'.symm)
    omega
  · exact absurd e (hno' i hi)
  · exact absurd e (hno' i hi)
  · exact absurd e (hno' i hi)
  · exact absurd e' (hno i' hi')
  · have := edge_one hnd hG hq hq' hs hs'
    subst this
    omega
  · exact absurd hs (hj' q hq)
  · exact absurd hs (hj' q hq)
  · exact absurd e' (hno i' hi')
  · exact absurd hs' (hj q' hq')
  · have : t = t' := by
      rcases hG.2 with ⟨_, rfl⟩ | ⟨_, _, T, _⟩
      · cases ht
      · exact T.one p t t' ht ht' hin hin'
    subst this
    omega
  · exact absurd hin (hti' t ht)
  · exact absurd e' (hno i' hi')
  · exact absurd hs' (hj q' hq')
  · exact absurd hin' (hti t' ht')
  · omega

/-! ### a mesh's state -/
structure MS where
  pts : List Pt
  nums : List Int
  ever : Nat
  ts : List T3
structure MS.Ok (s : MS) : Prop where
  len : s.pts.length = s.nums.length
  le : s.pts.length ≤ 60
  near : AllNear s.pts
  nd : s.pts.Nodup
  inc : s.nums.Pairwise (· < ·)
  rng : ∀ n ∈ s.nums, 0 ≤ n ∧ n < s.ever
  good : GoodT s.pts s.ts
/-- by numbers -/
def numO (ns : List Int) (i : Int) : Int := if 0 ≤ i then ns.getD i.toNat 0 else i
def numT (ns : List Int) (t : T3) : T3 := (ns.getD t.1.toNat 0, ns.getD t.2.1.toNat 0, ns.getD t.2.2.toNat 0)
theorem inc_inj {ns : List Int} (h : ns.Pairwise (· < ·)) {i j : Nat} (hi : i < ns.length) (hj : j < ns.length) (e : ns.getD i 0 = ns.getD j 0) : i = j := by
  have ei : ns.getD i 0 = ns[i] := by simp [hi]
  have ej : ns.getD j 0 = ns[j] := by simp [hj]
  rw [ei, ej] at e
  have := List.pairwise_iff_getElem.1 h
  rcases Nat.lt_trichotomy i j with k | k | k
  · have := this i j hi hj k; omega
  · exact k
  · have := this j i hj hi k; omega
theorem place_num {ns : List Int} (h : ns.Pairwise (· < ·)) {i : Nat} (hi : i < ns.length) : placeN ns (ns.getD i 0) = i :=
  placeN_first hi (fun j hj e => by have := inc_inj h (by omega) hi e; omega) rfl
theorem getD_mem {ns : List Int} {i : Nat} (h : i < ns.length) : ns.getD i 0 ∈ ns := by
  have : ns.getD i 0 = ns[i] := by simp [h]
  rw [this]; exact List.getElem_mem h
end Go.Proofs.YtgpapegpdfonpaaGreatDoor

namespace Go.Proofs.YtgpapegpdfonpaaGreatDoor
set_option linter.unusedVariables false
set_option linter.unusedSimpArgs false
open Go.RowKit

/-! ### two points, and a place on their line -/
/-- a side that has a place on it, which lies right of neither of the two others -/
theorem side_mid {a b c p : Pt} (h : 0 < sd a b c) (h0 : sd a b p = 0) (h1 : 0 ≤ sd b c p) (h2 : 0 ≤ sd c a p) (na : p ≠ a) (nb : p ≠ b) : onSeg p a b := by
  refine ⟨h0, ?_⟩
  obtain ⟨e1, e2, e3⟩ := bary a b c p
  rw [h0] at e1 e2 e3
  have hab : a ≠ b := by rintro rfl; unfold sd at h; grind
  have hd : 0 < dst a b := dst_pos hab
  generalize sd a b c = S at *
  generalize sd b c p = u at *
  generalize sd c a p = v at *
  have X1 : S * (p.1 - a.1) = v * (b.1 - a.1) := by subst e3; grind
  have X2 : S * (p.2 - a.2) = v * (b.2 - a.2) := by subst e3; grind
  have Y1 : S * (p.1 - b.1) = u * (a.1 - b.1) := by subst e3; grind
  have Y2 : S * (p.2 - b.2) = u * (a.2 - b.2) := by subst e3; grind
  have hS : S ≠ 0 := by omega
  have hv : 0 < v := by
    rcases Int.lt_or_eq_of_le h2 with k | k
    · exact k
    · exfalso; apply na
      rw [← k, Int.zero_mul] at X1 X2
      have z1 := (Int.mul_eq_zero.1 X1).resolve_left hS
      have z2 := (Int.mul_eq_zero.1 X2).resolve_left hS
      exact Prod.ext (by omega) (by omega)
  have hu : 0 < u := by
    rcases Int.lt_or_eq_of_le h1 with k | k
    · exact k
    · exfalso; apply nb
      rw [← k, Int.zero_mul] at Y1 Y2
      have z1 := (Int.mul_eq_zero.1 Y1).resolve_left hS
      have z2 := (Int.mul_eq_zero.1 Y2).resolve_left hS
      exact Prod.ext (by omega) (by omega)
  have key : S * (S * dt a b p) = - (u * v * dst a b) := by
    have e : S * (S * dt a b p) = (S * (p.1 - a.1)) * (S * (p.1 - b.1)) + (S * (p.2 - a.2)) * (S * (p.2 - b.2)) := by unfold dt; grind
    rw [e, X1, X2, Y1, Y2]; unfold dst; grind
  have hpos : 0 < u * v * dst a b := Int.mul_pos (Int.mul_pos hu hv) hd
  exact neg_of_mul_neg h (neg_of_mul_neg h (by rw [key]; omega))

theorem seg_lex1 {p A B : Pt} (h : onSeg p A B) (hl : A.1 < B.1) : plt A p ∧ plt p B := by
  obtain ⟨h0, hd⟩ := h
  have hab : A ≠ B := fun e => by rw [e] at hl; omega
  obtain ⟨t0, t1⟩ := mid_range hab h0 hd
  have hx := line_x A B p
  have hL := len2_pos hab
  rw [h0, Int.zero_mul, Int.sub_zero] at hx
  have g1 : 0 < p.1 - A.1 := pos_of_mul hL (by rw [hx]; exact Int.mul_pos t0 (by omega))
  have g2 : p.1 - B.1 < 0 := by
    refine neg_of_mul_neg hL ?_
    have e : len2 A B * (p.1 - B.1) = - ((len2 A B - tau A B p) * (B.1 - A.1)) := by
      have : len2 A B * (p.1 - B.1) = len2 A B * (p.1 - A.1) - len2 A B * (B.1 - A.1) := by grind
      rw [this, hx]; grind
    have : 0 < (len2 A B - tau A B p) * (B.1 - A.1) := Int.mul_pos (by omega) (by omega)
    omega
  exact ⟨.inl (by omega), .inl (by omega)⟩
theorem seg_lex {p A B : Pt} (h : onSeg p A B) : (plt A p ∧ plt p B) ∨ (plt B p ∧ plt p A) := by
  rcases Int.lt_trichotomy A.1 B.1 with k | k | k
  · exact .inl (seg_lex1 h k)
  · have hne := h.ne
    obtain ⟨h0, hd⟩ := h
    have h2 : B.2 - A.2 ≠ 0 := fun e => hne (Prod.ext k (by omega))
    have hp : p.1 = A.1 := by
      unfold sd at h0
      rw [show B.1 - A.1 = 0 by omega, Int.zero_mul] at h0
      have : (B.2 - A.2) * (p.1 - A.1) = 0 := by omega
      have := (Int.mul_eq_zero.1 this).resolve_left h2
      omega
    have hy : (p.2 - A.2) * (p.2 - B.2) < 0 := by
      unfold dt at hd
      rw [show p.1 - A.1 = 0 by omega, Int.zero_mul] at hd
      omega
    rcases Int.lt_or_le A.2 p.2 with k1 | k1
    · have := neg_of_mul_neg (show 0 < p.2 - A.2 by omega) hy
      exact .inl ⟨.inr ⟨by omega, by omega⟩, .inr ⟨by omega, by omega⟩⟩
    · have k2 : 0 < p.2 - B.2 := by
        rcases Int.lt_or_le 0 (p.2 - B.2) with q | q
        · exact q
        · have := Int.mul_nonneg_of_nonpos_of_nonpos (show p.2 - A.2 ≤ 0 by omega) q; omega
      have k3 : p.2 ≠ A.2 := fun e => by rw [e, Int.sub_self, Int.zero_mul] at hy; omega
      exact .inr ⟨.inr ⟨by omega, by omega⟩, .inr ⟨by omega, by omega⟩⟩
  · exact .inr (seg_lex1 h.symm k)
theorem seg_of_lex {p A B : Pt} (h0 : sd A B p = 0) (h1 : plt A p) (h2 : plt p B) : onSeg p A B := by
  refine ⟨h0, ?_⟩
  have hle := dt_between h0 (ple_of_plt h1) (ple_of_plt h2)
  have hne : dt A B p ≠ 0 := fun e => by
    have key : dt A B p * dt A B p + sd A B p * sd A B p = dst p A * dst p B := by unfold dt sd dst; grind
    rw [e, h0] at key
    have a1 : 0 < dst p A := dst_pos fun e => by rw [e] at h1; exact plt_irrefl _ h1
    have a2 : 0 < dst p B := dst_pos fun e => by rw [e] at h2; exact plt_irrefl _ h2
    have := Int.mul_pos a1 a2
    omega
  omega

/-! ### points on one line -/
theorem ptAt_app {l : List Pt} {p : Pt} {i : Nat} (h : i < l.length) : ptAt (l ++ [p]) i = ptAt l i := by
  unfold ptAt px py; simp [List.getElem?_append_left h]
theorem ptAt_last (l : List Pt) (p : Pt) : ptAt (l ++ [p]) l.length = p := by unfold ptAt px py; simp
theorem ord_lt {l : List Pt} {is : List Nat} (hio : InOrder l is) (hnd : l.Nodup) {i j : Nat} (hij : i < j) (hj : j < is.length) : plt (ptAt l (is.getD i 0)) (ptAt l (is.getD j 0)) := by
  have h := hio.sorted i j hij hj
  rcases plt_tri (ptAt l (is.getD i 0)) (ptAt l (is.getD j 0)) with k | k | k
  · exact k
  · exfalso
    have e := ptAt_inj hnd (hio.lt _ (mem_getD (show i < is.length by omega))) (hio.lt _ (mem_getD hj)) k
    have := getD_inj hio.nodup (show i < is.length by omega) hj e
    omega
  · exact absurd k h
theorem ord_pos {l : List Pt} {is : List Nat} (hio : InOrder l is) {c : Nat} (hc : c < l.length) : ∃ j, j < is.length ∧ is.getD j 0 = c := by
  have hm : c ∈ is := hio.perm.mem_iff.2 (List.mem_range.2 hc)
  obtain ⟨j, hj, e⟩ := List.getElem_of_mem hm
  exact ⟨j, hj, by simp [hj, e]⟩
section
variable {l : List Pt} {p : Pt} {is : List Nat} {i : Nat}
theorem not_there (hnd : (l ++ [p]).Nodup) : ∀ j, j < l.length → ptAt l j ≠ p := fun j hj e => by
  have := ptAt_inj hnd (show j < (l ++ [p]).length by simp; omega) (show l.length < (l ++ [p]).length by simp) (by rw [ptAt_app hj, ptAt_last]; exact e)
  omega
theorem line_on_seg (hnd : (l ++ [p]).Nodup) (hio : InOrder (l ++ [p]) is) (hi : i < is.length) (hin : is.getD i 0 = l.length) {a b : Nat} (ha : a < l.length) (hb : b < l.length) (hs : onSeg p (ptAt l a) (ptAt l b)) : i ≠ 0 ∧ i + 1 ≠ is.length := by
  obtain ⟨ja, hja, ea⟩ := ord_pos hio (c := a) (by simp; omega)
  obtain ⟨jb, hjb, eb⟩ := ord_pos hio (c := b) (by simp; omega)
  have lt := fun {x y : Nat} (h : x < y) (hy : y < is.length) => ord_lt hio hnd h hy
  have pa : ptAt (l ++ [p]) (is.getD ja 0) = ptAt l a := by rw [ea, ptAt_app ha]
  have pb : ptAt (l ++ [p]) (is.getD jb 0) = ptAt l b := by rw [eb, ptAt_app hb]
  have pi : ptAt (l ++ [p]) (is.getD i 0) = p := by rw [hin, ptAt_last]
  have key : ∀ j, j < is.length → plt (ptAt (l ++ [p]) (is.getD j 0)) p → j < i := fun j hj h => by
    rcases Nat.lt_trichotomy j i with k | k | k
    · exact k
    · rw [k, pi] at h; exact absurd h (plt_irrefl _)
    · have := lt k hj; rw [pi] at this; exact absurd (plt_trans h this) (plt_irrefl _)
  have key' : ∀ j, j < is.length → plt p (ptAt (l ++ [p]) (is.getD j 0)) → i < j := fun j hj h => by
    rcases Nat.lt_trichotomy j i with k | k | k
    · have := lt k hi; rw [pi] at this; exact absurd (plt_trans h this) (plt_irrefl _)
    · rw [k, pi] at h; exact absurd h (plt_irrefl _)
    · exact k
  rcases seg_lex hs with ⟨h1, h2⟩ | ⟨h1, h2⟩
  · have := key ja hja (by rw [pa]; exact h1)
    have := key' jb hjb (by rw [pb]; exact h2)
    omega
  · have := key jb hjb (by rw [pb]; exact h1)
    have := key' ja hja (by rw [pa]; exact h2)
    omega
/-- at an end: outside -/
theorem line_end (hnd : (l ++ [p]).Nodup) (hio : InOrder (l ++ [p]) is) (hi : i < is.length) (hin : is.getD i 0 = l.length) (he : i = 0 ∨ i + 1 = is.length) : LocP l [] (allJ l [] (flB l) l.length) p 0 (-1) (-1) (-1) := by
  refine .inr (.inr (.inr ⟨not_there hnd, fun q hq hs => ?_, (fun t ht => by cases ht), rfl, rfl, rfl, rfl⟩))
  obtain ⟨a, b⟩ := q
  obtain ⟨h1, h2, h3, _⟩ := mem_allJ.1 hq
  have := line_on_seg hnd hio hi hin h1 h3 hs
  omega
/-- between two: -/
theorem line_mid (hnd : (l ++ [p]).Nodup) (hio : InOrder (l ++ [p]) is) (hi : i + 1 < is.length) (h0 : 0 < i) (hin : is.getD i 0 = l.length) (hf : FlatP l) : is.getD (i - 1) 0 < l.length ∧ is.getD (i + 1) 0 < l.length ∧ is.getD (i - 1) 0 ≠ is.getD (i + 1) 0 ∧
    (sd (ptAt l (is.getD (i - 1) 0)) (ptAt l (is.getD (i + 1) 0)) p ≠ 0 → LocP l [] (allJ l [] (flB l) l.length) p 0 (-1) (-1) (-1)) ∧
    (sd (ptAt l (is.getD (i - 1) 0)) (ptAt l (is.getD (i + 1) 0)) p = 0 → LocP l [] (allJ l [] (flB l) l.length) p 2 (min (is.getD (i - 1) 0) (is.getD (i + 1) 0) : Nat) (max (is.getD (i - 1) 0) (is.getD (i + 1) 0) : Nat) (-1)) := by
  have hnl : l.Nodup := (List.nodup_append.1 hnd).1
  have hlt : ∀ j, j < is.length → j ≠ i → is.getD j 0 < l.length := fun j hj hne => by
    have h1 := hio.lt _ (mem_getD hj)
    have h2 : is.getD j 0 ≠ l.length := fun e => hne (getD_inj hio.nodup hj (by omega) (e.trans hin.symm))
    simp only [List.length_append, List.length_cons, List.length_nil] at h1
    omega
  have ha := hlt (i - 1) (by omega) (by omega)
  have hb := hlt (i + 1) (by omega) (by omega)
  have hne : is.getD (i - 1) 0 ≠ is.getD (i + 1) 0 := fun e => by have := getD_inj hio.nodup (show i - 1 < is.length by omega) (show i + 1 < is.length by omega) e; omega
  have lt := fun {x y : Nat} (h : x < y) (hy : y < is.length) => ord_lt hio hnd h hy
  have pi : ptAt (l ++ [p]) (is.getD i 0) = p := by rw [hin, ptAt_last]
  have l1 := lt (show i - 1 < i by omega) (by omega)
  have l2 := lt (show i < i + 1 by omega) hi
  have l3 := lt (show i - 1 < i + 1 by omega) hi
  rw [pi, ptAt_app ha] at l1
  rw [pi, ptAt_app hb] at l2
  rw [ptAt_app ha, ptAt_app hb] at l3
  -- what lies beyond the two
  have out : ∀ c, c < l.length → c ≠ is.getD (i - 1) 0 → c ≠ is.getD (i + 1) 0 → plt (ptAt l c) (ptAt l (is.getD (i - 1) 0)) ∨ plt (ptAt l (is.getD (i + 1) 0)) (ptAt l c) := fun c hc c1 c2 => by
    obtain ⟨j, hj, e⟩ := ord_pos hio (c := c) (by simp; omega)
    have n1 : j ≠ i - 1 := fun k => c1 (by rw [← e, k])
    have n2 : j ≠ i + 1 := fun k => c2 (by rw [← e, k])
    have n3 : j ≠ i := fun k => by rw [k, hin] at e; omega
    rcases Nat.lt_or_ge j i with k | k
    · have := lt (show j < i - 1 by omega) (by omega)
      rw [e, ptAt_app ha, ptAt_app hc] at this
      exact .inl this
    · have := lt (show i + 1 < j by omega) hj
      rw [e, ptAt_app hb, ptAt_app hc] at this
      exact .inr this
  generalize is.getD (i - 1) 0 = a at *
  generalize is.getD (i + 1) 0 = b at *
  refine ⟨ha, hb, hne, fun hs => ?_, fun hs => ?_⟩
  · refine .inr (.inr (.inr ⟨not_there hnd, fun q hq hq2 => ?_, (fun t ht => by cases ht), rfl, rfl, rfl, rfl⟩))
    obtain ⟨c, d⟩ := q
    obtain ⟨h1, h2, h3, _⟩ := mem_allJ.1 hq
    exact hs (col3 hq2.ne (flat_all hnl hf h1 h3 ha) (flat_all hnl hf h1 h3 hb) hq2.1)
  · have seg : onSeg p (ptAt l a) (ptAt l b) := seg_of_lex hs l1 l2
    have free : ∀ c, c < l.length → c ≠ a → c ≠ b → 0 ≤ dt (ptAt l a) (ptAt l b) (ptAt l c) := fun c hc c1 c2 => by
      rcases Int.lt_or_le (dt (ptAt l a) (ptAt l b) (ptAt l c)) 0 with k | k
      · exfalso
        have sc : onSeg (ptAt l c) (ptAt l a) (ptAt l b) := ⟨flat_all hnl hf ha hb hc, k⟩
        rcases out c hc c1 c2 with o | o <;> rcases seg_lex sc with ⟨s1, s2⟩ | ⟨s1, s2⟩
        · exact plt_irrefl _ (plt_trans o s1)
        · exact plt_irrefl _ (plt_trans o (plt_trans l3 s1))
        · exact plt_irrefl _ (plt_trans o s2)
        · exact plt_irrefl _ (plt_trans o (plt_trans s2 l3))
      · exact k
    have join : ∀ {x y : Nat}, x < y → x < l.length → y < l.length → (∀ c, c < l.length → c ≠ x → c ≠ y → 0 ≤ dt (ptAt l x) (ptAt l y) (ptAt l c)) → (x, y) ∈ allJ l [] (flB l) l.length := fun {x y} hxy hx hy hfr => by
      refine mem_allJ.2 ⟨hx, hxy, hy, ?_⟩
      unfold joinB
      rw [(flB_iff l).2 hf]
      have : freeB l x y l.length = true := by
        unfold freeB
        rw [List.all_eq_true]
        intro c hc
        have hc := List.mem_range.1 hc
        by_cases e1 : c = x
        · simp [e1]
        · by_cases e2 : c = y
          · simp [e2]
          · simp [e1, e2, hfr c hc e1 e2]
      simp [this]
    refine .inr (.inl ⟨not_there hnd, ?_⟩)
    rcases Nat.lt_or_ge a b with k | k
    · refine ⟨(a, b), join k ha hb free, seg, rfl, ?_, ?_, rfl⟩
      · rw [Nat.min_eq_left (by omega)]
      · rw [Nat.max_eq_right (by omega)]
    · refine ⟨(b, a), join (by omega) hb ha (fun c hc c1 c2 => by rw [dt_comm]; exact free c hc c2 c1), seg.symm, rfl, ?_, ?_, rfl⟩
      · rw [Nat.min_eq_right (by omega)]
      · rw [Nat.max_eq_left (by omega)]
end

/-! ### triangles -/
section
variable {l : List Pt} {ts : List T3} {p : Pt}
theorem flB_not {l : List Pt} (hf : ¬ FlatP l) : flB l = false := by
  cases hb : flB l with
  | false => rfl
  | true => exact absurd ((flB_iff l).1 hb) hf
theorem GoodT.tri {l : List Pt} {ts : List T3} (hG : GoodT l ts) {t : T3} (ht : t ∈ ts) : ¬ FlatP l ∧ IsOk l ts ∧ Tile l ts := by
  rcases hG.2 with ⟨_, rfl⟩ | ⟨h1, h2, h3, _⟩
  · cases ht
  · exact ⟨h1, h2, h3⟩
/-- joined ones are two of one triangle -/
theorem join_tri (hf : ¬ FlatP l) {a b : Nat} (h : (a, b) ∈ allJ l ts (flB l) l.length) : a < l.length ∧ b < l.length ∧ a < b ∧ ∃ t ∈ ts, (goneP [t] a b ∨ goneP [t] b a) := by
  obtain ⟨h1, h2, h3, h4⟩ := mem_allJ.1 h
  refine ⟨h1, h3, h2, ?_⟩
  rw [flB_not hf] at h4
  unfold joinB at h4
  rw [Bool.false_and, Bool.false_or, List.any_eq_true] at h4
  obtain ⟨t, ht, hh⟩ := h4
  rw [Bool.and_eq_true] at hh
  exact ⟨t, ht, has_gone (List.mem_singleton.2 rfl) (by omega) hh.1 hh.2⟩
theorem gone_one {t : T3} {a b : Int} (h : goneP [t] a b) : (t.1 = a ∧ t.2.1 = b) ∨ (t.2.1 = a ∧ t.2.2 = b) ∨ (t.2.2 = a ∧ t.1 = b) := by
  obtain ⟨t', ht, k, hk, h1, h2⟩ := h
  rw [List.mem_singleton.1 ht] at h1 h2
  have : k = 0 ∨ k = 1 ∨ k = 2 := by omega
  rcases this with rfl | rfl | rfl
  · exact .inl ⟨h1, h2⟩
  · exact .inr (.inl ⟨h1, h2⟩)
  · exact .inr (.inr ⟨h1, h2⟩)
theorem gone_mem {t : T3} {a b : Int} (ht : t ∈ ts) (h : goneP [t] a b) : goneP ts a b := by
  obtain ⟨t', ht', r⟩ := h
  rw [List.mem_singleton.1 ht'] at r
  exact ⟨t, ht, r⟩
/-- sides of a triangle, of a place -/
def sI (l : List Pt) (p : Pt) (a b : Int) : Int := sd (pOf l a) (pOf l b) p
theorem tri_in (hG : GoodT l ts) (hno : ∀ i, i < l.length → ptAt l i ≠ p) {t : T3} (ht : t ∈ ts) (h0 : 0 < sI l p t.1 t.2.1) (h1 : 0 < sI l p t.2.1 t.2.2) (h2 : 0 < sI l p t.2.2 t.1) : LocP l ts (allJ l ts (flB l) l.length) p 1 t.1 t.2.1 t.2.2 := by
  obtain ⟨hf, F, T⟩ := hG.tri ht
  refine .inr (.inr (.inl ⟨hno, fun q hq hs => ?_, t, ht, ⟨h0, h1, h2⟩, rfl, rfl, rfl, rfl⟩))
  obtain ⟨a, b⟩ := q
  obtain ⟨ha, hb, hab, t', ht', hg⟩ := join_tri hf hq
  rcases hg with hg | hg
  · exact T.mid p a b (gone_mem ht' hg) (by rw [pOf_nat, pOf_nat]; exact hs) t ht ⟨h0, h1, h2⟩
  · exact T.mid p b a (gone_mem ht' hg) (by rw [pOf_nat, pOf_nat]; exact hs.symm) t ht ⟨h0, h1, h2⟩
/-- an edge of a triangle that has a place on it -/
theorem tri_edge (hG : GoodT l ts) (hno : ∀ i, i < l.length → ptAt l i ≠ p) {t : T3} (ht : t ∈ ts) {x y z : Int} (hc : t = (x, y, z) ∨ t = (z, x, y) ∨ t = (y, z, x)) (h0 : sI l p x y = 0) (h1 : 0 ≤ sI l p y z) (h2 : 0 ≤ sI l p z x) : LocP l ts (allJ l ts (flB l) l.length) p 2 (min x y) (max x y) (-1) := by
  obtain ⟨hf, F, T⟩ := hG.tri ht
  have hn := hG.nums t ht
  have hr : 0 ≤ x ∧ x < l.length ∧ 0 ≤ y ∧ y < l.length := by
    rcases hc with rfl | rfl | rfl <;> simp only at hn <;> omega
  have hS : 0 < sd (pOf l x) (pOf l y) (pOf l z) := by
    have h := (F.tri t ht).2.1
    rcases hc with rfl | rfl | rfl
    · exact h
    · rw [← sd_rot]; rw [← sd_rot]; rw [← sd_rot]; simpa only [sd_rot] using h
    · simpa only [sd_rot] using h
  have nx : p ≠ pOf l x := fun e => hno x.toNat (by omega) e.symm
  have ny : p ≠ pOf l y := fun e => hno y.toNat (by omega) e.symm
  have seg := side_mid hS h0 h1 h2 nx ny
  have hxy : x ≠ y := fun e => by rw [e] at hS; unfold sd at hS; grind
  have hx : hasB t x = true := by rcases hc with rfl | rfl | rfl <;> simp [hasB]
  have hy : hasB t y = true := by rcases hc with rfl | rfl | rfl <;> simp [hasB]
  have mem : ∀ {a b : Nat}, a < b → b < l.length → hasB t a = true → hasB t b = true → (a, b) ∈ allJ l ts (flB l) l.length := fun {a b} hab hb ka kb => by
    refine mem_allJ.2 ⟨by omega, hab, hb, ?_⟩
    unfold joinB
    rw [Bool.or_eq_true]
    right
    rw [List.any_eq_true]
    exact ⟨t, ht, by rw [ka, kb]; rfl⟩
  have ex : ((x.toNat : Nat) : Int) = x := by omega
  have ey : ((y.toNat : Nat) : Int) = y := by omega
  refine .inr (.inl ⟨hno, ?_⟩)
  rcases Int.lt_or_le x y with k | k
  · refine ⟨(x.toNat, y.toNat), mem (by omega) (by omega) (by rw [ex]; exact hx) (by rw [ey]; exact hy), seg, rfl, ?_, ?_, rfl⟩
    · show _ = ((x.toNat : Nat) : Int); omega
    · show _ = ((y.toNat : Nat) : Int); omega
  · refine ⟨(y.toNat, x.toNat), mem (by omega) (by omega) (by rw [ey]; exact hy) (by rw [ex]; exact hx), seg.symm, rfl, ?_, ?_, rfl⟩
    · show _ = ((y.toNat : Nat) : Int); omega
    · show _ = ((x.toNat : Nat) : Int); omega
/-- right of a side of each: outside -/
theorem tri_out (hG : GoodT l ts) (hne : ts ≠ []) (hno : ∀ i, i < l.length → ptAt l i ≠ p) (h : ∀ t ∈ ts, sI l p t.1 t.2.1 < 0 ∨ sI l p t.2.1 t.2.2 < 0 ∨ sI l p t.2.2 t.1 < 0) : LocP l ts (allJ l ts (flB l) l.length) p 0 (-1) (-1) (-1) := by
  obtain ⟨t0, ht0⟩ := List.exists_mem_of_ne_nil _ hne
  obtain ⟨hf, F, T⟩ := hG.tri ht0
  refine .inr (.inr (.inr ⟨hno, fun q hq hs => ?_, fun t ht hin => ?_, rfl, rfl, rfl, rfl⟩))
  · obtain ⟨a, b⟩ := q
    obtain ⟨ha, hb, hab, t, ht, hg⟩ := join_tri hf hq
    have hS := (F.tri t ht).2.1
    have key : ∀ {u v : Nat}, goneP [t] u v → onSeg p (ptAt l u) (ptAt l v) → False := fun {u v} hg hs => by
      have hs : onSeg p (pOf l u) (pOf l v) := hs
      have hh := h t ht
      unfold sI at hh
      rcases gone_one hg with ⟨e1, e2⟩ | ⟨e1, e2⟩ | ⟨e1, e2⟩
      · rw [← e1, ← e2] at hs
        have := mid_sides hs.ne hs.1 hs.2 hS
        have := hs.1; omega
      · rw [← e1, ← e2] at hs
        have := mid_sides hs.ne hs.1 hs.2 (by rw [sd_rot]; exact hS)
        have := hs.1; omega
      · rw [← e1, ← e2] at hs
        have := mid_sides hs.ne hs.1 hs.2 (by rw [sd_rot, sd_rot]; exact hS)
        have := hs.1; omega
    rcases hg with hg | hg
    · exact key hg hs
    · exact key hg hs.symm
  · have hh := h t ht
    have hin : within p (pOf l t.1) (pOf l t.2.1) (pOf l t.2.2) := hin
    unfold sI at hh
    obtain ⟨i1, i2, i3⟩ := hin
    omega

/-- what is told of one triangle, by the signs of the three sides -/
def heldB (s0 s1 s2 : Int) (t : T3) : List Int :=
  if s0 < 0 ∨ s1 < 0 ∨ s2 < 0 then [] else if s2 = 0 then [min t.2.2 t.1, max t.2.2 t.1] else if s1 = 0 then [min t.2.1 t.2.2, max t.2.1 t.2.2] else if s0 = 0 then [min t.1 t.2.1, max t.1 t.2.1] else [t.1, t.2.1, t.2.2]
def heldT (l : List Pt) (p : Pt) (t : T3) : List Int := heldB (sI l p t.1 t.2.1) (sI l p t.2.1 t.2.2) (sI l p t.2.2 t.1) t
/-- told: a kind, and three numbers -/
def kindH (n : Nat) : Int := if n = 0 then 0 else if n = 1 then 3 else if n = 2 then 2 else 1
def LocH (l : List Pt) (ts : List T3) (p : Pt) (hs : List Int) : Prop := hs.length ≤ 3 ∧ (∀ x ∈ hs, 0 ≤ x ∧ x < l.length) ∧ LocP l ts (allJ l ts (flB l) l.length) p (kindH hs.length) (hs.getD 0 (-1)) (hs.getD 1 (-1)) (hs.getD 2 (-1))
theorem held_loc (hG : GoodT l ts) (hno : ∀ i, i < l.length → ptAt l i ≠ p) {t : T3} (ht : t ∈ ts) (hne : heldT l p t ≠ []) : LocH l ts p (heldT l p t) := by
  have hn := hG.nums t ht
  unfold heldT heldB at hne ⊢
  obtain ⟨x, y, z⟩ := t
  simp only at hn hne ⊢
  by_cases c : sI l p x y < 0 ∨ sI l p y z < 0 ∨ sI l p z x < 0
  · rw [if_pos c] at hne; exact absurd rfl hne
  · rw [if_neg c]
    by_cases c2 : sI l p z x = 0
    · rw [if_pos c2]
      exact ⟨by simp, by simp; omega, tri_edge hG hno ht (.inr (.inr rfl)) c2 (by omega) (by omega)⟩
    · rw [if_neg c2]
      by_cases c1 : sI l p y z = 0
      · rw [if_pos c1]
        exact ⟨by simp, by simp; omega, tri_edge hG hno ht (.inr (.inl rfl)) c1 (by omega) (by omega)⟩
      · rw [if_neg c1]
        by_cases c0 : sI l p x y = 0
        · rw [if_pos c0]
          exact ⟨by simp, by simp; omega, tri_edge hG hno ht (.inl rfl) c0 (by omega) (by omega)⟩
        · rw [if_neg c0]
          exact ⟨by simp, by simp; omega, tri_in hG hno ht (show 0 < sI l p x y by omega) (show 0 < sI l p y z by omega) (show 0 < sI l p z x by omega)⟩
theorem held_none (hG : GoodT l ts) (hne : ts ≠ []) (hno : ∀ i, i < l.length → ptAt l i ≠ p) (h : ∀ t ∈ ts, heldT l p t = []) : LocH l ts p [] := by
  refine ⟨by simp, by simp, tri_out hG hne hno fun t ht => ?_⟩
  have := h t ht
  unfold heldT heldB at this
  split at this
  · assumption
  · repeat' split at this
    all_goals simp at this
end
end Go.Proofs.YtgpapegpdfonpaaGreatDoor
