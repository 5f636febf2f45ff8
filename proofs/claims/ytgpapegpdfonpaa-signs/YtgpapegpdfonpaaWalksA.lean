/-
  The small functions beneath Orient and InCircle: what each call hands back, in whatever world, and that it leaves old memory as it was.
-/
import Derived.Test.YtgpapegpdfonpaaRows
import Derived.WalkKit
import Derived.WalkSpells
import Derived.WalkLawsBesides
import Derived.Laws.EntriesVeiled
import Derived.Deep.RegionHeld3
import Derived.Deep.DrawnRows
namespace Go.Proofs.Ytgpapegpdfonpaa
set_option linter.unusedVariables false
set_option linter.unusedSimpArgs false
open Go.RowKit
attribute [local go_sem ↓] Go.wp_at_zero Go.wp_at_succ

/-- which of n things a raw number speaks of -/
def pk (c n : Int) : Int := if c < 0 then (-(c + 1)) % n else c % n

theorem pk_bd (c n : Int) (hn : 0 < n) : 0 ≤ pk c n ∧ pk c n < n := by
  unfold pk; split
  · exact ⟨Int.emod_nonneg _ (by omega), Int.emod_lt_of_pos _ hn⟩
  · exact ⟨Int.emod_nonneg _ (by omega), Int.emod_lt_of_pos _ hn⟩

theorem ret_int {k : IntKind} {a b : Int} (h : a = b) : Ending.returned (.int k a) = .returned (.int k b) := by rw [h]

theorem pk_neg (c n : Int) (hc : c < 0) : -(c + 1).tmod n = pk c n := by
  unfold pk; rw [if_pos hc, ← Int.neg_tmod, Int.tmod_eq_emod_of_nonneg (by omega)]

set_option maxHeartbeats 400000 in
theorem pick_any (c n : Int) (w : World) (h1 : -9223372036854775808 ≤ c) (h2 : c ≤ 9223372036854775807) (hn : 0 < n) (hn2 : n ≤ 1000000) :
    Calls Try.prog 14 #[.int .i64 c, .int .i64 n] w fun e w' => e = .returned (.int .i64 (pk c n)) ∧ w' = w := by
  by_cases hc : c < 0
  · go_enter Try.func14, Try.ntmps14
    go_wp2
    go_ret
    exact ⟨ret_int (by simpa using pk_neg c n hc), rfl⟩
  · go_enter Try.func14, Try.ntmps14
    go_wp2
    go_ret
    exact ⟨ret_int (by unfold pk; rw [if_neg (by omega)]), rfl⟩

def sideN (ax ay bx by' cx cy : Int) : Int := (bx - ax) * (cy - ay) - (by' - ay) * (cx - ax)

theorem below1 (w : World) (o : Obj) : Below w.heap.size w (w.alloc o) := (Below.refl _ _).alloc (Nat.le_refl _) _
theorem below2 (w : World) (o p : Obj) : Below w.heap.size w ((w.alloc o).alloc p) := (below1 w o).alloc (by simp) _
theorem below3 (w : World) (o p q : Obj) : Below w.heap.size w (((w.alloc o).alloc p).alloc q) := (below2 w o p).alloc (by simp; omega) _
theorem below4 (w : World) (o p q r : Obj) : Below w.heap.size w ((((w.alloc o).alloc p).alloc q).alloc r) := (below3 w o p q).alloc (by simp; omega) _

/-- The condition of a region that draws its order and only makes memory: behind each of its operations the world in which it began lies there as it was. -/
theorem keep0 (W : World) : Below W.heap.size W W.drew ∧ ∀ b o, b < W.heap.size → W.drew.cell? ⟨b, o, none⟩ = W.cell? ⟨b, o, none⟩ := ⟨(Below.refl _ _).drew, fun _ _ _ => rfl⟩
theorem keep1 {W w1 w2 : World} (h : Below W.heap.size W w1 ∧ ∀ b o, b < W.heap.size → w1.cell? ⟨b, o, none⟩ = W.cell? ⟨b, o, none⟩) (h2 : Below w1.heap.size w1 w2) :
    Below W.heap.size W w2 ∧ ∀ b o, b < W.heap.size → w2.cell? ⟨b, o, none⟩ = W.cell? ⟨b, o, none⟩ :=
  have hb := h.1.trans (h2.mono h.1.size)
  ⟨hb, fun b o hlt => hb.cell (p := ⟨b, o, none⟩) hlt⟩

theorem keepE {w W w2 : World} (h : Below W.heap.size W w2 ∧ ∀ b o, b < W.heap.size → w2.cell? ⟨b, o, none⟩ = W.cell? ⟨b, o, none⟩) (h0 : Below w.heap.size w W) : Below w.heap.size w w2 :=
  h0.trans (h.1.mono h0.size)

theorem cell_third (w : World) (o p : Obj) (c : Array Value) (t : TypeId) (i : Nat) (v : Value) (h : c[i]? = some v) :
    (((w.alloc o).alloc p).alloc (.cells c t)).drew.cell? ⟨w.heap.size + 1 + 1, i, none⟩ = some v := by
  rw [World.cell?_drew, World.cell?_alloc_at _ _ _ _ (by simp)]; exact h
theorem cell_fourth (w : World) (o p q : Obj) (c : Array Value) (t : TypeId) (i : Nat) (v : Value) (h : c[i]? = some v) :
    ((((w.alloc o).alloc p).alloc q).alloc (.cells c t)).drew.cell? ⟨w.heap.size + 1 + 1 + 1, i, none⟩ = some v := by
  rw [World.cell?_drew, World.cell?_alloc_at _ _ _ _ (by simp)]; exact h

/-- A point that is not too far out. -/
structure Near (x y : Int) : Prop where
  x1 : -8000 ≤ x
  x2 : x ≤ 8000
  y1 : -8000 ≤ y
  y2 : y ≤ 8000

theorem mul_bd {a b A B : Int} (h1 : -A ≤ a) (h2 : a ≤ A) (h3 : -B ≤ b) (h4 : b ≤ B) : -(A * B) ≤ a * b ∧ a * b ≤ A * B := by
  have hA : 0 ≤ A := by omega
  have hB : 0 ≤ B := by omega
  have p1 := Int.mul_nonneg (show 0 ≤ A - a by omega) (show 0 ≤ B - b by omega)
  have p2 := Int.mul_nonneg (show 0 ≤ A + a by omega) (show 0 ≤ B - b by omega)
  have p3 := Int.mul_nonneg (show 0 ≤ A - a by omega) (show 0 ≤ B + b by omega)
  have p4 := Int.mul_nonneg (show 0 ≤ A + a by omega) (show 0 ≤ B + b by omega)
  simp only [Int.sub_mul, Int.mul_sub, Int.add_mul, Int.mul_add] at p1 p2 p3 p4
  omega

theorem sideN_bd {ax ay bx by' cx cy : Int} (a : Near ax ay) (b : Near bx by') (c : Near cx cy) :
    -512000000 ≤ sideN ax ay bx by' cx cy ∧ sideN ax ay bx by' cx cy ≤ 512000000 := by
  obtain ⟨a1, a2, a3, a4⟩ := a; obtain ⟨b1, b2, b3, b4⟩ := b; obtain ⟨c1, c2, c3, c4⟩ := c
  unfold sideN
  have := @mul_bd (bx - ax) (cy - ay) 16000 16000 (by omega) (by omega) (by omega) (by omega)
  have := @mul_bd (by' - ay) (cx - ax) 16000 16000 (by omega) (by omega) (by omega) (by omega)
  omega

set_option maxHeartbeats 400000 in
theorem stepFrom_any (ax ay bx by' : Int) (w : World) (a : Near ax ay) (b : Near bx by') :
    Calls Try.prog 63 #[.agg #[.int .i64 ax, .int .i64 ay], .agg #[.int .i64 bx, .int .i64 by']] w fun e w' =>
      e = .returned (.agg #[.int .i64 (bx - ax), .int .i64 (by' - ay)]) ∧ Below w.heap.size w w' := by
  obtain ⟨a1, a2, a3, a4⟩ := a; obtain ⟨b1, b2, b3, b4⟩ := b
  go_enter Try.func63, Try.ntmps63
  go_wp2
  exact bodyPost_ret (v := .agg #[.int .i64 (bx - ax), .int .i64 (by' - ay)]) (by simp [results, Try.results63, go_sem]) rfl ⟨rfl, below3 _ _ _ _⟩

set_option maxHeartbeats 400000 in
theorem cross_any (ax ay bx by' : Int) (w : World) (a1 : -16000 ≤ ax) (a2 : ax ≤ 16000) (a3 : -16000 ≤ ay) (a4 : ay ≤ 16000) (b1 : -16000 ≤ bx) (b2 : bx ≤ 16000) (b3 : -16000 ≤ by') (b4 : by' ≤ 16000) :
    Calls Try.prog 64 #[.agg #[.int .i64 ax, .int .i64 ay], .agg #[.int .i64 bx, .int .i64 by']] w fun e w' =>
      e = .returned (.int .i64 (ax * by' - ay * bx)) ∧ Below w.heap.size w w' := by
  have m1 := @mul_bd ax by' 16000 16000 (by omega) (by omega) (by omega) (by omega)
  have m2 := @mul_bd ay bx 16000 16000 (by omega) (by omega) (by omega) (by omega)
  go_enter Try.func64, Try.ntmps64
  go_wp2
  go_ret
  exact ⟨rfl, below2 _ _ _⟩

set_option maxHeartbeats 400000 in
theorem square_any (ax ay : Int) (w : World) (a1 : -16000 ≤ ax) (a2 : ax ≤ 16000) (a3 : -16000 ≤ ay) (a4 : ay ≤ 16000) :
    Calls Try.prog 65 #[.agg #[.int .i64 ax, .int .i64 ay]] w fun e w' =>
      e = .returned (.int .i64 (ax * ax + ay * ay)) ∧ Below w.heap.size w w' := by
  have m1 := @mul_bd ax ax 16000 16000 (by omega) (by omega) (by omega) (by omega)
  have m2 := @mul_bd ay ay 16000 16000 (by omega) (by omega) (by omega) (by omega)
  go_enter Try.func65, Try.ntmps65
  go_wp2
  go_ret
  exact ⟨rfl, below1 _ _⟩

/-- -1, 0, 1 -/
def sg (n : Int) : Int := if 0 < n then 1 else if n < 0 then -1 else 0

theorem sg_bd (n : Int) : -1 ≤ sg n ∧ sg n ≤ 1 := by unfold sg; split <;> (try split) <;> omega

set_option maxHeartbeats 400000 in
theorem sign_any (n : Int) (w : World) :
    Calls Try.prog 62 #[.int .i64 n] w fun e w' => e = .returned (.int .i64 (sg n)) ∧ w' = w := by
  unfold sg
  by_cases h1 : 0 < n
  · rw [if_pos h1]
    go_enter Try.func62, Try.ntmps62
    go_wp2
    go_ret
    exact ⟨rfl, rfl⟩
  · rw [if_neg h1]
    by_cases h2 : n < 0
    · rw [if_pos h2]
      go_enter Try.func62, Try.ntmps62
      go_wp2
      go_ret
      exact ⟨rfl, rfl⟩
    · rw [if_neg h2]
      go_enter Try.func62, Try.ntmps62
      go_wp2
      go_ret
      exact ⟨rfl, rfl⟩

set_option maxHeartbeats 400000 in
theorem kside_any (ax ay bx by' cx cy : Int) (w : World) (a : Near ax ay) (b : Near bx by') (c : Near cx cy) :
    Calls Try.prog 11 #[.agg #[.int .i64 ax, .int .i64 ay], .agg #[.int .i64 bx, .int .i64 by'], .agg #[.int .i64 cx, .int .i64 cy]] w fun e w' =>
      e = .returned (.int .i64 (sideN ax ay bx by' cx cy)) ∧ Below w.heap.size w w' := by
  obtain ⟨a1, a2, a3, a4⟩ := a; obtain ⟨b1, b2, b3, b4⟩ := b; obtain ⟨c1, c2, c3, c4⟩ := c
  have m1 := @mul_bd (bx - ax) (cy - ay) 16000 16000 (by omega) (by omega) (by omega) (by omega)
  have m2 := @mul_bd (by' - ay) (cx - ax) 16000 16000 (by omega) (by omega) (by omega) (by omega)
  unfold sideN
  go_enter Try.func11, Try.ntmps11
  go_wp2
  go_ret
  exact ⟨rfl, below3 _ _ _ _⟩

set_option maxHeartbeats 400000 in
theorem isFarNumber_any (n : Int) (w : World) :
    Calls Try.prog 78 #[.int .i64 n] w fun e w' => e = .returned (.bool (decide (8000 < n) || decide (n < -8000))) ∧ w' = w := by
  by_cases h1 : 8000 < n
  · go_enter Try.func78, Try.ntmps78
    go_wp2
    go_ret
    exact ⟨by rw [decide_eq_true h1]; rfl, rfl⟩
  · go_enter Try.func78, Try.ntmps78
    go_wp2
    go_ret
    exact ⟨by rw [decide_eq_false (by omega : ¬ 8000 < n)]; rfl, rfl⟩

/-- too far out? -/
def farB (x y : Int) : Bool := (decide (8000 < x) || decide (x < -8000)) || (decide (8000 < y) || decide (y < -8000))

theorem farB_near {x y : Int} (h : farB x y = false) : Near x y := by
  simp only [farB, Bool.or_eq_false_iff, decide_eq_false_iff_not] at h
  exact ⟨by omega, by omega, by omega, by omega⟩
theorem near_farB {x y : Int} (h : Near x y) : farB x y = false := by
  obtain ⟨a, b, c, d⟩ := h
  simp only [farB, Bool.or_eq_false_iff, decide_eq_false_iff_not]
  omega

set_option maxHeartbeats 400000 in
theorem isFar_any (x y : Int) (w : World) :
    Calls Try.prog 58 #[.agg #[.int .i64 x, .int .i64 y]] w fun e w' => e = .returned (.bool (farB x y)) ∧ Below w.heap.size w w' := by
  unfold farB
  by_cases h1 : (decide (8000 < x) || decide (x < -8000)) = true
  · rw [h1]
    go_enter Try.func58, Try.ntmps58
    go_wp2_with (go_at_call 78; refine (isFarNumber_any _ _).mono ?_; rintro e w' ⟨rfl, rfl⟩; rw [h1])
    go_ret
    exact ⟨rfl, below1 _ _⟩
  · have h0 : (decide (8000 < x) || decide (x < -8000)) = false := by simpa using h1
    clear h1
    rw [h0]
    go_enter Try.func58, Try.ntmps58
    go_wp2_with (go_at_call 78; refine (isFarNumber_any _ _).mono ?_; rintro e w' ⟨rfl, rfl⟩; try rw [h0])
    go_ret
    exact ⟨rfl, below1 _ _⟩

/-- The points of a list lie in a block, two cells each, from a place on. -/
def PtsAt (w : World) (b off : Nat) (l : List (Int × Int)) : Prop :=
  ∀ j, j < l.length → w.cell? ⟨b, off + j * 2, none⟩ = some (.int .i64 (l.getD j (0, 0)).1) ∧ w.cell? ⟨b, off + j * 2 + 1, none⟩ = some (.int .i64 (l.getD j (0, 0)).2)

def anyFarB (l : List (Int × Int)) : Bool := l.any fun p => farB p.1 p.2

theorem anyFarB_succ (l : List (Int × Int)) (k : Nat) (h : k < l.length) : anyFarB (l.take (k + 1)) = (anyFarB (l.take k) || farB l[k].1 l[k].2) := by
  unfold anyFarB; rw [List.take_succ_eq_append_getElem h, List.any_append]; simp only [List.any_cons, List.any_nil, Bool.or_false]
theorem anyFarB_hit (l : List (Int × Int)) (k : Nat) (h : k < l.length) (hf : farB l[k].1 l[k].2 = true) : anyFarB l = true := by
  unfold anyFarB; rw [List.any_eq_true]; exact ⟨l[k], List.getElem_mem h, hf⟩

set_option maxHeartbeats 800000 in
theorem indexFunc_any (b off : Nat) (cap : Nat) (l : List (Int × Int)) (w : World) (hl : l.length ≤ 1000000000) (hb : b < w.heap.size) (hp : PtsAt w b off l) :
    Calls Try.prog 77 #[.slice (some ⟨b, off, none⟩) l.length cap, .func (.func 58) #[] #[]] w fun e w' =>
      (∃ r : Int, e = .returned (.int .i64 r) ∧ decide (0 ≤ r) = anyFarB l) ∧ Below w.heap.size w w' := by
  go_enter Try.func77, Try.ntmps77
  go_wp2
  go_loopw [8] (fun i wr => ∃ k : Nat, k ≤ l.length ∧ i = .int .i64 k ∧ anyFarB (l.take k) = false ∧ Below w.heap.size w wr)
    (fun i _ => l.length - (intOf i).toNat)
  case atStart => exact ⟨0, Nat.zero_le _, rfl, rfl, Below.refl _ _⟩
  case round =>
    obtain ⟨k, hk, rfl, hno, hnx⟩ := hrel
    by_cases hlt : k < l.length
    · obtain ⟨c0, c1⟩ := hp k hlt
      have hc0 := (hnx.cell (p := ⟨b, off + k * 2, none⟩) hb).trans c0
      have hc1 := (hnx.cell (p := ⟨b, off + k * 2 + 1, none⟩) hb).trans c1
      clear c0 c1
      go_wp2_with (go_at_call 58; refine (isFar_any _ _ _).mono ?_; rintro e w' ⟨rfl, hb1⟩)
      · have hf : farB l[k].1 l[k].2 = true := by assumption
        go_ret
        exact ⟨⟨k, rfl, by rw [anyFarB_hit l k hlt hf]; simp⟩, hnx.trans (hb1.mono hnx.size)⟩
      · have hf : farB l[k].1 l[k].2 = false := by assumption
        go_roundw
        case rel => exact ⟨k + 1, by omega, by go_num, by rw [anyFarB_succ l k hlt, hno, hf]; rfl, hnx.trans (hb1.mono hnx.size)⟩
        case measure => simp [intOf]; omega
    · go_wp2
      go_ret
      rw [List.take_of_length_le (by omega)] at hno
      exact ⟨⟨-1, rfl, by rw [hno]; rfl⟩, hnx⟩

set_option maxHeartbeats 400000 in
theorem containsFunc_any (b off : Nat) (cap : Nat) (l : List (Int × Int)) (w : World) (hl : l.length ≤ 1000000000) (hb : b < w.heap.size) (hp : PtsAt w b off l) :
    Calls Try.prog 57 #[.slice (some ⟨b, off, none⟩) l.length cap, .func (.func 58) #[] #[]] w fun e w' =>
      e = .returned (.bool (anyFarB l)) ∧ Below w.heap.size w w' := by
  go_enter Try.func57, Try.ntmps57
  go_wp2_with (go_at_call 77; refine (indexFunc_any _ _ _ l _ hl hb hp).mono ?_; rintro e w' ⟨⟨r, rfl, hr⟩, hb1⟩)
  go_ret
  exact ⟨by rw [← hr]; rfl, hb1⟩

set_option maxHeartbeats 400000 in
theorem anyFar_any (b off : Nat) (cap : Nat) (l : List (Int × Int)) (w : World) (hl : l.length ≤ 1000000000) (hb : b < w.heap.size) (hp : PtsAt w b off l) :
    Calls Try.prog 36 #[.slice (some ⟨b, off, none⟩) l.length cap] w fun e w' =>
      e = .returned (.bool (anyFarB l)) ∧ Below w.heap.size w w' := by
  go_enter Try.func36, Try.ntmps36
  go_wp2_with (go_at_call 57; refine (containsFunc_any _ _ _ l _ hl hb hp).mono ?_; rintro e w' ⟨rfl, hb1⟩)
  go_ret
  exact ⟨rfl, hb1⟩

set_option maxHeartbeats 400000 in
theorem askOf_any (a : Option Addr) (n c : Nat) (w : World) :
    Calls Try.prog 27 #[.slice a n c] w fun e w' => ∃ B, w.heap.size ≤ B ∧ B < w'.heap.size ∧ w'.cell? ⟨B, 0, none⟩ = some (.slice a n c) ∧
      e = .returned (.agg #[.func (.func 46) #[] #[.pointer (some ⟨B, 0, none⟩)], .func (.func 48) #[] #[.pointer (some ⟨B, 0, none⟩)]]) ∧ Below w.heap.size w w' := by
  go_enter Try.func27, Try.ntmps27
  go_wp2
  refine bodyPost_ret (v := .agg #[.func (.func 46) #[] #[.pointer (some ⟨w.heap.size, 0, none⟩)], .func (.func 48) #[] #[.pointer (some ⟨w.heap.size, 0, none⟩)]]) (by simp [results, Try.results27, go_sem]) rfl ⟨w.heap.size, Nat.le_refl _, by simp; omega, ?_, rfl, below2 _ _ _⟩
  simp

set_option maxHeartbeats 400000 in
theorem pside_any (ax ay bx by' cx cy : Int) (w : World) (a : Near ax ay) (b : Near bx by') (c : Near cx cy) :
    Calls Try.prog 47 #[.agg #[.int .i64 ax, .int .i64 ay], .agg #[.int .i64 bx, .int .i64 by'], .agg #[.int .i64 cx, .int .i64 cy]] w fun e w' =>
      e = .returned (.int .i64 (sg (sideN ax ay bx by' cx cy))) ∧ Below w.heap.size w w' := by
  have ha := a; have hb := b; have hc := c
  obtain ⟨a1, a2, a3, a4⟩ := a; obtain ⟨b1, b2, b3, b4⟩ := b; obtain ⟨c1, c2, c3, c4⟩ := c
  unfold sideN
  go_enter Try.func47, Try.ntmps47
  go_wp2_with fail
  have hb0 : Below w.heap.size w (((w.alloc (.cells #[.int .i64 ax, .int .i64 ay] 23)).alloc (.cells #[.int .i64 bx, .int .i64 by'] 23)).alloc (.cells #[.int .i64 cx, .int .i64 cy] 23)) := below3 _ _ _ _
  generalize hW : (((w.alloc (.cells #[.int .i64 ax, .int .i64 ay] 23)).alloc (.cells #[.int .i64 bx, .int .i64 by'] 23)).alloc (.cells #[.int .i64 cx, .int .i64 cy] 23)) = W at *
  have hsz : W.heap.size = w.heap.size + 1 + 1 + 1 := by rw [← hW]; simp
  have k0 : W.cell? ⟨w.heap.size, 0, none⟩ = some (.int .i64 ax) := by rw [← hW]; simp [go_sem]
  have k1 : W.cell? ⟨w.heap.size, 1, none⟩ = some (.int .i64 ay) := by rw [← hW]; simp [go_sem]
  have k2 : W.cell? ⟨w.heap.size + 1, 0, none⟩ = some (.int .i64 bx) := by rw [← hW]; simp [go_sem]
  have k3 : W.cell? ⟨w.heap.size + 1, 1, none⟩ = some (.int .i64 by') := by rw [← hW]; simp [go_sem]
  have k4 : W.cell? ⟨w.heap.size + 1 + 1, 0, none⟩ = some (.int .i64 cx) := by rw [← hW, World.cell?_alloc_at _ _ _ _ (by simp)]; rfl
  have k5 : W.cell? ⟨w.heap.size + 1 + 1, 1, none⟩ = some (.int .i64 cy) := by rw [← hW, World.cell?_alloc_at _ _ _ _ (by simp)]; rfl
  clear hW
  go_region_held3 (fun w' => Below W.heap.size W w' ∧ ∀ b o, b < W.heap.size → w'.cell? ⟨b, o, none⟩ = W.cell? ⟨b, o, none⟩) (first | exact keep0 _ | exact keep1 (by assumption) hb1)
    (first
      | (go_at_call 63; refine (stepFrom_any _ _ _ _ _ (by assumption) (by assumption)).mono ?_; rintro e w' ⟨rfl, hb1⟩)
      | (go_at_call 64; refine (cross_any _ _ _ _ _ (by omega) (by omega) (by omega) (by omega) (by omega) (by omega) (by omega) (by omega)).mono ?_; rintro e w' ⟨rfl, hb1⟩)
      | (go_at_call 62; refine (sign_any _ _).mono ?_; rintro e w' ⟨rfl, rfl⟩; have hb1 := Below.refl w'.heap.size w'))
  go_wp2
  go_ret
  exact ⟨rfl, keepE (by assumption) hb0⟩

end Go.Proofs.Ytgpapegpdfonpaa
