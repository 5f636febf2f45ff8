/-
  Points and triangles as lines of numbers: what is written, and what is read (mathematics alone).
-/
import Derived.Lib.ItoaLen
import Derived.Lib.ParseIntB
namespace Go.Proofs.YtgpapegpdfonpaaGreatDoor
set_option linter.unusedVariables false
set_option linter.unusedSimpArgs false
open Go.Lib

theorem digit_toNat {d : Nat} (h : d < 10) : (UInt8.ofNat (48 + d)).toNat = 48 + d := by
  rw [UInt8.toNat_ofNat']; omega
theorem dec_mem (u : Nat) : ∀ c ∈ decDigits u, 48 ≤ c.toNat ∧ c.toNat ≤ 57 := by
  induction u using Nat.strongRecOn with
  | ind u ih =>
    intro c hc
    rw [decDigits] at hc
    by_cases h : u < 10
    · rw [dif_pos h] at hc
      simp only [List.mem_singleton] at hc
      subst hc
      rw [digit_toNat h]; omega
    · rw [dif_neg h] at hc
      rcases List.mem_append.1 hc with hc | hc
      · exact ih (u / 10) (by omega) c hc
      · simp only [List.mem_singleton] at hc
        subst hc
        rw [digit_toNat (by omega)]; omega
theorem dec_ne (u : Nat) : decDigits u ≠ [] := by
  rw [decDigits]; split <;> simp
theorem parseM_app (M : Nat) (b : List UInt8) : ∀ (a : List UInt8) (acc v : Nat), parseUintM M acc a = .ok v → parseUintM M acc (a ++ b) = parseUintM M v b
  | [], acc, v, h => by simp only [parseUintM] at h; cases h; rfl
  | c :: r, acc, v, h => by
    simp only [parseUintM, List.cons_append] at h ⊢
    split at h
    · rename_i h1
      rw [if_pos h1]
      split at h
      · cases h
      · rename_i h2
        rw [if_neg h2]
        split at h
        · cases h
        · rename_i h3
          rw [if_neg h3]
          exact parseM_app M b r _ _ h
    · cases h
theorem parseM_dec (M : Nat) (hM : M < 18446744073709551616) (u : Nat) : u ≤ M → parseUintM M 0 (decDigits u) = .ok u := by
  induction u using Nat.strongRecOn with
  | ind u ih =>
    intro hu
    rw [decDigits]
    by_cases h : u < 10
    · rw [dif_pos h]
      simp only [parseUintM, digit_toNat h]
      rw [if_pos (by omega), if_neg (by omega), if_neg (by omega)]
      congr 1; omega
    · rw [dif_neg h, parseM_app M _ _ _ _ (ih (u / 10) (by omega) (by omega))]
      simp only [parseUintM, digit_toNat (show u % 10 < 10 by omega)]
      rw [if_pos (by omega), if_neg (by omega), if_neg (by omega)]
      congr 1; omega
theorem parse_itoa {n : Int} (h0 : -9223372036854775808 ≤ n) (h1 : n ≤ 9223372036854775807) : parseIntB 64 (itoa n) = .ok n := by
  unfold itoa
  by_cases hn : n < 0
  · rw [if_pos hn]
    have e := parseM_dec (2 ^ 64 - 1) (by omega) n.natAbs (by omega)
    have e2 : parseUintB 64 (decDigits n.natAbs) = .ok n.natAbs := by unfold parseUintB; rw [if_neg (dec_ne _)]; exact e
    unfold parseIntB
    simp only [show (45 : UInt8).toNat = 45 from rfl]
    rw [if_pos (by simp), e2]
    simp only [not_true_eq_false, false_and, if_false, true_and]
    rw [if_neg (by omega)]
    simp only [if_true]
    congr 1; omega
  · rw [if_neg hn]
    have e := parseM_dec (2 ^ 64 - 1) (by omega) n.toNat (by omega)
    have e2 : parseUintB 64 (decDigits n.toNat) = .ok n.toNat := by unfold parseUintB; rw [if_neg (dec_ne _)]; exact e
    cases hd : decDigits n.toNat with
    | nil => exact absurd hd (dec_ne _)
    | cons c r =>
      have hc := dec_mem n.toNat c (by rw [hd]; exact List.mem_cons_self)
      rw [hd] at e2
      unfold parseIntB
      simp only
      rw [if_neg (by omega), e2]
      simp only
      rw [if_neg (by omega), if_neg (by omega), if_neg (by omega)]
      congr 1; omega
theorem parse_range {l : List UInt8} {v : Int} (h : parseIntB 64 l = .ok v) : -9223372036854775808 ≤ v ∧ v ≤ 9223372036854775807 := by
  unfold parseIntB at h
  split at h
  · cases h
  · simp only at h
    split at h
    · cases h
    · cases h
    · split at h
      · cases h
      · split at h
        · cases h
        · cases h
          split <;> omega

/-- a word that is written as its number is -/
def numS (w : List UInt8) : Option Int := match parseIntB 64 w with
  | .ok n => if itoa n = w then some n else none
  | _ => none
def J64 (n : Int) : Prop := -9223372036854775808 ≤ n ∧ n ≤ 9223372036854775807
theorem numS_iff {w : List UInt8} {n : Int} : numS w = some n ↔ w = itoa n ∧ J64 n := by
  constructor
  · intro h
    unfold numS at h
    split at h
    · rename_i m hm
      split at h
      · rename_i e
        cases h
        exact ⟨e.symm, parse_range hm⟩
      · cases h
    · cases h
  · rintro ⟨rfl, h0, h1⟩
    unfold numS
    rw [parse_itoa h0 h1]
    simp
theorem numS_nil : numS [] = none := rfl
theorem itoa_mem {n : Int} {c : UInt8} (h : c ∈ itoa n) : c ≠ 10 ∧ c ≠ 32 := by
  have key : 48 ≤ c.toNat ∧ c.toNat ≤ 57 ∨ c = 45 := by
    unfold itoa at h
    split at h
    · rcases List.mem_cons.1 h with h | h
      · exact .inr h
      · exact .inl (dec_mem _ c h)
    · exact .inl (dec_mem _ c h)
  constructor
  · rintro rfl
    rcases key with k | k
    · simp at k
    · cases k
  · rintro rfl
    rcases key with k | k
    · simp at k
    · cases k

/-- the first of a byte: what lies ahead, and behind -/
def cutAt (c : UInt8) : List UInt8 → Option (List UInt8 × List UInt8)
  | [] => none
  | x :: r => if x = c then some ([], r) else (cutAt c r).map fun q => (x :: q.1, q.2)
theorem cutAt_app {c : UInt8} {b : List UInt8} : ∀ {a : List UInt8}, c ∉ a → cutAt c (a ++ c :: b) = some (a, b)
  | [], _ => by simp [cutAt]
  | x :: r, h => by
    simp only [List.mem_cons, not_or] at h
    simp only [List.cons_append, cutAt]
    rw [if_neg (Ne.symm h.1), cutAt_app h.2]
    rfl
theorem cutAt_some {c : UInt8} : ∀ {s a b : List UInt8}, cutAt c s = some (a, b) → s = a ++ c :: b ∧ c ∉ a
  | [], a, b, h => by cases h
  | x :: r, a, b, h => by
    simp only [cutAt] at h
    split at h
    · rename_i e
      cases h
      subst e
      exact ⟨rfl, by simp⟩
    · rename_i e
      cases hq : cutAt c r with
      | none => rw [hq] at h; cases h
      | some q =>
        rw [hq] at h
        cases h
        obtain ⟨h1, h2⟩ := cutAt_some hq
        refine ⟨by rw [h1]; rfl, ?_⟩
        simp only [List.mem_cons, not_or]
        exact ⟨fun e' => e e'.symm, h2⟩
theorem cutAt_none {c : UInt8} : ∀ {s : List UInt8}, cutAt c s = none → c ∉ s
  | [], _ => by simp
  | x :: r, h => by
    simp only [cutAt] at h
    split at h
    · cases h
    · rename_i e
      cases hq : cutAt c r with
      | none => simp only [List.mem_cons, not_or]; exact ⟨fun e' => e e'.symm, cutAt_none hq⟩
      | some q => rw [hq] at h; cases h
def cutD (c : UInt8) (s : List UInt8) : List UInt8 × List UInt8 := (cutAt c s).getD (s, [])
/-- a word within bounds -/
def numIn (lo hi : Int) (w : List UInt8) : Option Int := match numS w with
  | none => none
  | some n => if n < lo ∨ hi < n then none else some n
theorem numIn_iff {lo hi n : Int} {w : List UInt8} : numIn lo hi w = some n ↔ w = itoa n ∧ J64 n ∧ lo ≤ n ∧ n ≤ hi := by
  unfold numIn
  constructor
  · intro h
    split at h
    · cases h
    · rename_i m hm
      split at h
      · cases h
      · cases h
        obtain ⟨h1, h2⟩ := numS_iff.1 hm
        exact ⟨h1, h2, by omega, by omega⟩
  · rintro ⟨h1, h2, h3, h4⟩
    rw [numS_iff.2 ⟨h1, h2⟩]
    simp only
    rw [if_neg (by omega)]
theorem numIn_nil {lo hi : Int} : numIn lo hi [] = none := rfl
/-- a line's words -/
def numsS (lo hi : Int) : Nat → List UInt8 → Option (List Int)
  | 0, _ => some []
  | 1, l => match numIn lo hi l with
    | none => none
    | some n => some [n]
  | k + 2, l => match numIn lo hi (cutD 32 l).1 with
    | none => none
    | some n => match numsS lo hi (k + 1) (cutD 32 l).2 with
      | none => none
      | some r => some (n :: r)
def lineB : List Int → List UInt8
  | [] => []
  | [n] => itoa n
  | n :: m :: r => itoa n ++ 32 :: lineB (m :: r)
def InL (lo hi : Int) (ns : List Int) : Prop := ∀ n ∈ ns, J64 n ∧ lo ≤ n ∧ n ≤ hi
theorem lineB_mem : ∀ {ns : List Int} {c : UInt8}, c ∈ lineB ns → c ≠ 10
  | [], c, h => by cases h
  | [n], c, h => (itoa_mem h).1
  | n :: m :: r, c, h => by
    simp only [lineB] at h
    rcases List.mem_append.1 h with h | h
    · exact (itoa_mem h).1
    · rcases List.mem_cons.1 h with h | h
      · subst h; decide
      · exact lineB_mem h
theorem numsS_nil {lo hi : Int} : ∀ k, numsS lo hi (k + 1) [] = none
  | 0 => rfl
  | k + 1 => rfl
theorem numsS_iff {lo hi : Int} : ∀ (k : Nat) (l : List UInt8) (ns : List Int), numsS lo hi (k + 1) l = some ns ↔ ns.length = k + 1 ∧ InL lo hi ns ∧ l = lineB ns
  | 0, l, ns => by
    simp only [numsS]
    constructor
    · intro h
      split at h
      · cases h
      · rename_i n hn
        cases h
        obtain ⟨h1, h2⟩ := numIn_iff.1 hn
        refine ⟨rfl, fun m hm => ?_, h1⟩
        simp only [List.mem_singleton] at hm
        subst hm; exact h2
    · rintro ⟨h1, h2, h3⟩
      match ns, h1 with
      | [n], _ =>
        rw [numIn_iff.2 ⟨h3, h2 n (by simp)⟩]
  | k + 1, l, ns => by
    simp only [numsS]
    constructor
    · intro h
      split at h
      · cases h
      · rename_i n hn
        split at h
        · cases h
        · rename_i r hr
          cases h
          cases hc : cutAt 32 l with
          | none =>
            have : cutD 32 l = (l, []) := by unfold cutD; rw [hc]; rfl
            rw [this] at hr
            rw [numsS_nil] at hr
            cases hr
          | some q =>
            obtain ⟨a, b⟩ := q
            have e : cutD 32 l = (a, b) := by unfold cutD; rw [hc]; rfl
            rw [e] at hn hr
            obtain ⟨e1, _⟩ := cutAt_some hc
            obtain ⟨f1, f2⟩ := numIn_iff.1 hn
            obtain ⟨g1, g2, g3⟩ := (numsS_iff k b r).1 hr
            refine ⟨by simp [g1], fun m hm => ?_, ?_⟩
            · rcases List.mem_cons.1 hm with hm | hm
              · subst hm; exact f2
              · exact g2 m hm
            · match r, g1 with
              | m :: r', _ =>
                simp only [lineB]
                rw [e1, ← g3, show a = itoa n from f1]
    · rintro ⟨h1, h2, h3⟩
      match ns, h1 with
      | n :: m :: r, h1 =>
        simp only [lineB] at h3
        have hc := cutAt_app (c := 32) (b := lineB (m :: r)) (a := itoa n) (fun h => (itoa_mem h).2 rfl)
        have e : cutD 32 l = (itoa n, lineB (m :: r)) := by unfold cutD; rw [h3, hc]; rfl
        rw [e]
        simp only
        rw [numIn_iff.2 ⟨rfl, h2 n (by simp)⟩]
        simp only
        rw [(numsS_iff k _ (m :: r)).2 ⟨by simpa using h1, fun x hx => h2 x (List.mem_cons_of_mem _ hx), rfl⟩]
/-- a line, and what is left -/
def lineS (lo hi : Int) (k : Nat) (s : List UInt8) : Option (List Int × List UInt8) := match cutAt 10 s with
  | none => none
  | some q => match numsS lo hi k q.1 with
    | none => none
    | some ns => some (ns, q.2)
theorem lineS_iff {lo hi : Int} {k : Nat} {s b : List UInt8} {ns : List Int} : lineS lo hi (k + 1) s = some (ns, b) ↔ ns.length = k + 1 ∧ InL lo hi ns ∧ s = lineB ns ++ 10 :: b := by
  unfold lineS
  constructor
  · intro h
    split at h
    · cases h
    · rename_i q hq
      split at h
      · cases h
      · rename_i r hr
        cases h
        obtain ⟨g1, g2, g3⟩ := (numsS_iff k _ _).1 hr
        refine ⟨g1, g2, ?_⟩
        rw [← g3]; exact (cutAt_some hq).1
  · rintro ⟨h1, h2, rfl⟩
    rw [cutAt_app fun h => lineB_mem h rfl]
    simp only
    rw [(numsS_iff k _ ns).2 ⟨h1, h2, rfl⟩]
/-- lines, up to the first that is none -/
def rowsS (lo hi : Int) (k : Nat) : Nat → List UInt8 → List (List Int) × List UInt8 × Bool
  | 0, s => ([], s, true)
  | m + 1, s => match lineS lo hi k s with
    | none => ([], s, false)
    | some q => (q.1 :: (rowsS lo hi k m q.2).1, (rowsS lo hi k m q.2).2)
def rowB (rs : List (List Int)) : List UInt8 := rs.flatMap fun r => lineB r ++ [10]
theorem rowsS_iff {lo hi : Int} {k : Nat} : ∀ (m : Nat) (s b : List UInt8) (rs : List (List Int)), rowsS lo hi (k + 1) m s = (rs, b, true) ↔ rs.length = m ∧ (∀ r ∈ rs, r.length = k + 1 ∧ InL lo hi r) ∧ s = rowB rs ++ b
  | 0, s, b, rs => by
    simp only [rowsS]
    constructor
    · intro h
      cases h
      exact ⟨rfl, by simp, rfl⟩
    · rintro ⟨h1, h2, h3⟩
      rw [List.length_eq_zero_iff.1 h1] at h3 ⊢
      rw [show s = b from h3]
  | m + 1, s, b, rs => by
    simp only [rowsS]
    constructor
    · intro h
      split at h
      · cases h
      · rename_i q hq
        obtain ⟨ns, c⟩ := q
        simp only at h
        obtain ⟨f1, f2, f3⟩ := lineS_iff.1 hq
        cases hr : rowsS lo hi (k + 1) m c with
        | mk rs' bb =>
          rw [hr] at h
          cases h
          obtain ⟨g1, g2, g3⟩ := (rowsS_iff m c b rs').1 hr
          refine ⟨by simp [g1], fun r hr => ?_, ?_⟩
          · rcases List.mem_cons.1 hr with hr | hr
            · subst hr; exact ⟨f1, f2⟩
            · exact g2 r hr
          · rw [f3, g3]; simp [rowB]
    · rintro ⟨h1, h2, h3⟩
      match rs, h1 with
      | r :: rs', h1 =>
        have hl : lineS lo hi (k + 1) s = some (r, rowB rs' ++ b) := lineS_iff.2 ⟨(h2 r (by simp)).1, (h2 r (by simp)).2, by rw [h3]; simp [rowB]⟩
        rw [hl]
        simp only
        rw [(rowsS_iff m (rowB rs' ++ b) b rs').2 ⟨by simpa using h1, fun x hx => h2 x (by simp [hx]), rfl⟩]
/-- the text of points and triangles -/
def textB (ps ts : List (List Int)) : List UInt8 := lineB [(ps.length : Int)] ++ 10 :: (rowB ps ++ (lineB [(ts.length : Int)] ++ 10 :: rowB ts))
/-- what is read, and what is left; or the line by which it is none -/
inductive ReadR where
  | bad (line : Nat)
  | good (ps ts : List (List Int)) (rest : List UInt8)
def mostT (n : Nat) : Int := if n = 0 then 0 else 9223372036854775807
def readT (ps : List (List Int)) (s : List UInt8) : ReadR := match lineS 0 (mostT ps.length) 1 s with
  | none => .bad (ps.length + 2)
  | some q => match rowsS 0 ((ps.length : Int) - 1) 3 (q.1.getD 0 0).toNat q.2 with
    | (ts, b, true) => .good ps ts b
    | (ts, _, false) => .bad (ps.length + ts.length + 3)
def readP (s : List UInt8) : ReadR := match lineS 0 60 1 s with
  | none => .bad 1
  | some q => match rowsS (-8000) 8000 2 (q.1.getD 0 0).toNat q.2 with
    | (ps, b, true) => readT ps b
    | (ps, _, false) => .bad (ps.length + 2)
/-- Read: (points, triangles), or the line -/
def readS (s : List UInt8) : (List (List Int) × List (List Int)) ⊕ Nat := match readP s with
  | .bad n => .inr n
  | .good ps ts [] => .inl (ps, ts)
  | .good ps ts (_ :: _) => .inr (ps.length + ts.length + 3)
structure TextOk (ps ts : List (List Int)) : Prop where
  few : ps.length ≤ 60
  pts : ∀ r ∈ ps, r.length = 2 ∧ InL (-8000) 8000 r
  tri : ∀ r ∈ ts, r.length = 3 ∧ InL 0 ((ps.length : Int) - 1) r
  many : (ts.length : Int) ≤ 9223372036854775807
theorem readP_iff {s b : List UInt8} {ps ts : List (List Int)} : readP s = .good ps ts b ↔ TextOk ps ts ∧ s = textB ps ts ++ b := by
  constructor
  · intro h
    unfold readP at h
    split at h
    · cases h
    · rename_i q hq
      obtain ⟨ns, c⟩ := q
      obtain ⟨f1, f2, f3⟩ := lineS_iff.1 hq
      match ns, f1 with
      | [n], _ =>
        have hn := f2 n (by simp)
        simp only [List.getD_cons_zero] at h
        split at h
        · rename_i ps' b' hr
          obtain ⟨g1, g2, g3⟩ := (rowsS_iff _ _ _ _).1 hr
          unfold readT at h
          split at h
          · cases h
          · rename_i q' hq'
            obtain ⟨ms, c'⟩ := q'
            obtain ⟨k1, k2, k3⟩ := lineS_iff.1 hq'
            match ms, k1 with
            | [m], _ =>
              have hm := k2 m (by simp)
              simp only [List.getD_cons_zero] at h
              split at h
              · rename_i ts' b'' hr'
                cases h
                obtain ⟨l1, l2, l3⟩ := (rowsS_iff _ _ _ _).1 hr'
                have e1 : n = ps.length := by omega
                have e2 : m = ts.length := by omega
                refine ⟨⟨by omega, g2, l2, by have := hm.1.2; omega⟩, ?_⟩
                rw [f3, g3, k3, l3, e1, e2]
                simp [textB]
              · cases h
        · cases h
  · rintro ⟨⟨h1, h2, h3, h4⟩, rfl⟩
    have A : lineS 0 60 1 (textB ps ts ++ b) = some ([(ps.length : Int)], rowB ps ++ (lineB [(ts.length : Int)] ++ 10 :: (rowB ts ++ b))) :=
      lineS_iff.2 ⟨rfl, fun n hn => by simp only [List.mem_singleton] at hn; subst hn; exact ⟨⟨by omega, by omega⟩, by omega, by omega⟩, by simp [textB]⟩
    have B : rowsS (-8000) 8000 2 ps.length (rowB ps ++ (lineB [(ts.length : Int)] ++ 10 :: (rowB ts ++ b))) = (ps, lineB [(ts.length : Int)] ++ 10 :: (rowB ts ++ b), true) := (rowsS_iff _ _ _ _).2 ⟨rfl, h2, rfl⟩
    have h5 : ps.length = 0 → ts.length = 0 := fun h0 => by
      cases ts with
      | nil => rfl
      | cons t r =>
        obtain ⟨k1, k2⟩ := h3 t (by simp)
        match t, k1 with
        | a :: _, _ => have := k2 a (by simp); omega
    have C : lineS 0 (mostT ps.length) 1 (lineB [(ts.length : Int)] ++ 10 :: (rowB ts ++ b)) = some ([(ts.length : Int)], rowB ts ++ b) :=
      lineS_iff.2 ⟨rfl, fun n hn => by
        simp only [List.mem_singleton] at hn; subst hn
        refine ⟨⟨by omega, by omega⟩, by omega, ?_⟩
        unfold mostT
        split
        · have := h5 (by assumption); omega
        · omega, rfl⟩
    have D : rowsS 0 ((ps.length : Int) - 1) 3 ts.length (rowB ts ++ b) = (ts, b, true) := (rowsS_iff _ _ _ _).2 ⟨rfl, h3, rfl⟩
    unfold readP
    rw [A]
    simp only [List.getD_cons_zero, Int.toNat_natCast]
    rw [B]
    simp only
    unfold readT
    rw [C]
    simp only [List.getD_cons_zero, Int.toNat_natCast]
    rw [D]
theorem readS_iff {s : List UInt8} {ps ts : List (List Int)} : readS s = .inl (ps, ts) ↔ TextOk ps ts ∧ s = textB ps ts := by
  have := readP_iff (s := s) (b := []) (ps := ps) (ts := ts)
  rw [List.append_nil] at this
  rw [← this]
  unfold readS
  split
  · rename_i h; rw [h]; simp
  · rename_i h; rw [h]; simp
  · rename_i h; rw [h]; simp
/-- one fewer is none -/
theorem readS_cut {ps ts : List (List Int)} (h : TextOk ps ts) {i : Nat} (hi : i < (textB ps ts).length) : ∃ n, readS ((textB ps ts).take i) = .inr n := by
  cases hr : readS ((textB ps ts).take i) with
  | inr n => exact ⟨n, rfl⟩
  | inl q =>
    obtain ⟨ps', ts'⟩ := q
    obtain ⟨h1, h2⟩ := readS_iff.1 hr
    have e1 := readP_iff.2 ⟨h, (List.append_nil (textB ps ts)).symm⟩
    have e2 : readP (textB ps ts) = .good ps' ts' ((textB ps ts).drop i) := readP_iff.2 ⟨h1, by rw [← h2, List.take_append_drop]⟩
    rw [e1] at e2
    injection e2 with _ _ e3
    have : ((textB ps ts).drop i).length = 0 := by rw [← e3]; rfl
    rw [List.length_drop] at this
    omega
theorem readS_more {ps ts : List (List Int)} (h : TextOk ps ts) (c : UInt8) (r : List UInt8) : readS (textB ps ts ++ c :: r) = .inr (ps.length + ts.length + 3) := by
  unfold readS
  rw [readP_iff.2 ⟨h, rfl⟩]
theorem readS_lead {ps ts : List (List Int)} (h : TextOk ps ts) : readS (48 :: textB ps ts) = .inr 1 := by
  have key : lineS 0 60 1 (48 :: textB ps ts) = none := by
    cases hl : lineS 0 60 1 (48 :: textB ps ts) with
    | none => rfl
    | some q =>
      exfalso
      obtain ⟨ns, b⟩ := q
      obtain ⟨f1, f2, f3⟩ := lineS_iff.1 hl
      match ns, f1 with
      | [n], _ =>
        have hn := f2 n (by simp)
        have c1 := cutAt_app (c := 10) (b := b) (a := lineB [n]) (fun h => lineB_mem h rfl)
        rw [← f3] at c1
        have c2 : cutAt 10 (48 :: textB ps ts) = some (48 :: lineB [(ps.length : Int)], rowB ps ++ (lineB [(ts.length : Int)] ++ 10 :: rowB ts)) := by
          have := cutAt_app (c := 10) (b := rowB ps ++ (lineB [(ts.length : Int)] ++ 10 :: rowB ts)) (a := 48 :: lineB [(ps.length : Int)]) (fun h => by
            rcases List.mem_cons.1 h with h | h
            · cases h
            · exact lineB_mem h rfl)
          exact this
        rw [c1] at c2
        injection c2 with c3
        have c4 : itoa n = 48 :: itoa (ps.length : Int) := (Prod.mk.inj c3).1
        have p1 := parse_itoa hn.1.1 hn.1.2
        have p2 := parseM_dec (2 ^ 64 - 1) (by omega) ps.length (by have := h.few; omega)
        have e0 : itoa (ps.length : Int) = decDigits ps.length := by unfold itoa; rw [if_neg (by omega)]; simp
        rw [c4, e0] at p1
        have p3 : parseUintB 64 (48 :: decDigits ps.length) = .ok ps.length := by
          unfold parseUintB
          rw [if_neg (by simp)]
          simp only [parseUintM, show (48 : UInt8).toNat = 48 from rfl]
          rw [if_pos (by omega), if_neg (by omega), if_neg (by omega)]
          exact p2
        unfold parseIntB at p1
        simp only [show (48 : UInt8).toNat = 48 from rfl] at p1
        rw [if_neg (by omega), p3] at p1
        simp only at p1
        rw [if_neg (by have := h.few; omega), if_neg (by omega), if_neg (by omega)] at p1
        injection p1 with p4
        rw [← p4] at c4
        have := congrArg List.length c4
        simp at this
  unfold readS readP
  rw [key]
theorem textB_ne (ps ts : List (List Int)) : textB ps ts ≠ [] := by
  unfold textB; simp
end Go.Proofs.YtgpapegpdfonpaaGreatDoor
