/-
  Net.asked of the statement: what is told of a place.
-/
import Derived.Test.YtgpapegpdfonpaaGreatSowX
import Derived.Test.YtgpapegpdfonpaaGreatFoundN
import Derived.Test.YtgpapegpdfonpaaGreatLivesD
import Derived.BigQuiet
import Derived.Lib.Hide
import Derived.Deep.CutBlock
namespace Go.Proofs.YtgpapegpdfonpaaGreat
set_option linter.unusedVariables false
set_option linter.unusedSimpArgs false
open Go.RowKit
attribute [local go_sem ↓] Go.wp_at_zero Go.wp_at_succ

set_option maxHeartbeats 400000 in
theorem kapart_any (ax ay bx by' : Int) (w : World) (a : Near ax ay) (b : Near bx by') :
    Calls Tryz.prog 18 #[.agg #[.int .i64 ax, .int .i64 ay], .agg #[.int .i64 bx, .int .i64 by']] w fun e w' =>
      e = .returned (.int .i64 (dst (ax, ay) (bx, by'))) ∧ Below w.heap.size w w' := by
  obtain ⟨a1, a2, a3, a4⟩ := a; obtain ⟨b1, b2, b3, b4⟩ := b
  have m1 := @mul_bd (ax - bx) (ax - bx) 16000 16000 (by omega) (by omega) (by omega) (by omega)
  have m2 := @mul_bd (ay - by') (ay - by') 16000 16000 (by omega) (by omega) (by omega) (by omega)
  unfold dst
  simp only
  go_enter Tryz.func18, Tryz.ntmps18
  go_wp2
  go_ret
  exact ⟨rfl, below2 _ _ _⟩

structure AMem (w : World) (X m g pc gn nc : Nat) (ta : Option Addr) (pts : List Pt) (ns : List Int) (ts : List T3) : Prop where
  hX : X < w.heap.size
  hg : g < w.heap.size
  hgn : gn < w.heap.size
  c0 : w.cell? ⟨X, 0, none⟩ = some (.pointer (some ⟨m, 0, none⟩))
  c1 : w.cell? ⟨X, 1, none⟩ = some (.slice (some ⟨g, 0, none⟩) pts.length pc)
  c2 : w.cell? ⟨X, 2, none⟩ = some (.slice (some ⟨gn, 0, none⟩) pts.length nc)
  hp : PtsAt w g 0 pts
  hn : ∀ j, j < pts.length → w.cell? ⟨gn, j, none⟩ = some (.int .i64 (ns.getD j 0))
  hT : ∀ j, j < ts.length → ∃ gt, ta = some ⟨gt, 0, none⟩ ∧ gt < w.heap.size ∧ w.cell? ⟨gt, j * 3, none⟩ = some (.int .i64 (ts.getD j (0, 0, 0)).1) ∧ w.cell? ⟨gt, j * 3 + 1, none⟩ = some (.int .i64 (ts.getD j (0, 0, 0)).2.1) ∧ w.cell? ⟨gt, j * 3 + 2, none⟩ = some (.int .i64 (ts.getD j (0, 0, 0)).2.2)
theorem AMem.below {w w' : World} {X m g pc gn nc : Nat} {ta : Option Addr} {pts : List Pt} {ns : List Int} {ts : List T3} (h : AMem w X m g pc gn nc ta pts ns ts) (hb : Below w.heap.size w w') : AMem w' X m g pc gn nc ta pts ns ts :=
  ⟨Nat.lt_of_lt_of_le h.hX hb.size, Nat.lt_of_lt_of_le h.hg hb.size, Nat.lt_of_lt_of_le h.hgn hb.size, (hb.cell (p := ⟨X, 0, none⟩) h.hX).trans h.c0, (hb.cell (p := ⟨X, 1, none⟩) h.hX).trans h.c1, (hb.cell (p := ⟨X, 2, none⟩) h.hX).trans h.c2,
   h.hp.below hb h.hg, fun j hj => (hb.cell (p := ⟨gn, j, none⟩) h.hgn).trans (h.hn j hj), fun j hj => by
    obtain ⟨gt, e, hgt, h0, h1, h2⟩ := h.hT j hj
    exact ⟨gt, e, Nat.lt_of_lt_of_le hgt hb.size, (hb.cell (p := ⟨gt, _, none⟩) hgt).trans h0, (hb.cell (p := ⟨gt, _, none⟩) hgt).trans h1, (hb.cell (p := ⟨gt, _, none⟩) hgt).trans h2⟩⟩

theorem eqOfF (a b c a' b' c' : Int) (w : World) : (Op.equalIn 9999 33 (.agg #[.int .i64 a, .int .i64 b, .int .i64 c]) (.agg #[.int .i64 a', .int .i64 b', .int .i64 c'])).run Tryz.prog w = .ok (a == a' && b == b' && c == c') w := by
  have u3 := Tryz.underlying3
  have a3 := Tryz.isAgg3
  have z3 := Tryz.sizeOf3
  rw [show (9999 : Nat) = 9998 + 1 from rfl, Op.equalIn]
  simp only [Sem.run_bind, run_underlying Tryz.underlying33, Result.andThen_ok]
  simp only [Std.Legacy.Range.forIn_eq_forIn_range', Std.Legacy.Range.size, Nat.sub_zero, Nat.add_sub_cancel, Nat.div_one, List.range'_succ, List.range'_zero, List.forIn_cons, List.forIn_nil]
  go_simp
  by_cases h1 : a = a' <;> by_cases h2 : b = b' <;> by_cases h3 : c = c' <;> simp [h1, h2, h3]
set_option maxRecDepth 100000 in
theorem eqPlaceF (a b c d : Int) (w : World) : (Op.equalIn 10000 35 (.agg #[.int .i64 a, .int .i64 b, .int .i64 c, .int .i64 d]) (.agg #[.int .i64 a, .int .i64 b, .int .i64 c, .int .i64 d])).run Tryz.prog w = .ok true w := by
  have heq := eqOfF b c d b c d
  have e1 : (b == b && c == c && d == d) = true := by simp
  rw [e1] at heq
  clear e1
  go_simp

theorem run_eqT (w : World) (x y : Operand) (a b : Int) (h : (a == b) = true) : Sem.run Tryz.prog (do eqGuard .eql 3 x y (.int .i64 a) (.int .i64 b); binOp .eql 3 (.int .i64 a) (.int .i64 b)) w = .ok (.bool true) w := by
  go_simp
theorem run_eqF (w : World) (x y : Operand) (a b : Int) (h : (a == b) = false) : Sem.run Tryz.prog (do eqGuard .eql 3 x y (.int .i64 a) (.int .i64 b); binOp .eql 3 (.int .i64 a) (.int .i64 b)) w = .ok (.bool false) w := by
  go_simp
theorem run_load_numsF (w : World) (K j : Nat) (v : Value) (h : w.cell? ⟨K, j, none⟩ = some v) : (Instr.loadAt 26 (.pointer (some ⟨K, j, none⟩))).run Tryz.prog w = .ok v w := by go_simp
theorem run_index_numF (w : World) (g n cap i : Nat) (h : i < n) : (Instr.indexAt 26 (.slice (some ⟨g, 0, none⟩) n cap) (.int .i64 (i : Int))).run Tryz.prog w = .ok (.pointer (some ⟨g, i, none⟩)) w := by
  have h0 : (0 : Int) ≤ (i : Int) := by omega
  have h1 : (i : Int) < (n : Int) := by omega
  go_simp

def valsA1 (X m B : Nat) (px py n : Int) : Nat → Value
  | 0 => .pointer (some ⟨X, 0, none⟩)
  | 1 => .pointer (some ⟨X, 0, none⟩)
  | 2 => .pointer (some ⟨X, 0, none⟩)
  | 3 => .pointer (some ⟨m, 0, none⟩)
  | 4 => .agg #[.int .i64 px, .int .i64 py]
  | 5 => .tuple #[.int .i64 n, .int .i64 0]
  | 6 => .tuple #[.int .i64 n, .int .i64 0]
  | 7 => .int .i64 n
  | 8 => .int .i64 0
  | 9 => .int .i64 n
  | 10 => .int .i64 0
  | _ => undef

def kdA2 (X m B : Nat) (px py k a b c : Int) : Nat → KndX
  | 0 => .val (.pointer (some ⟨X, 0, none⟩))
  | 1 => .val (.pointer (some ⟨X, 0, none⟩))
  | 2 => .val (.pointer (some ⟨X, 0, none⟩))
  | 3 => .val (.pointer (some ⟨m, 0, none⟩))
  | 4 => .val (.agg #[.int .i64 px, .int .i64 py])
  | 5 => .val (.tuple #[.agg #[.int .i64 k, .int .i64 a, .int .i64 b, .int .i64 c], .int .i64 0])
  | 6 => .val (.tuple #[.agg #[.int .i64 k, .int .i64 a, .int .i64 b, .int .i64 c], .int .i64 0])
  | 7 => .val (.agg #[.int .i64 k, .int .i64 a, .int .i64 b, .int .i64 c])
  | 8 => .val (.int .i64 0)
  | 9 => .fresh 35 #[.int .i64 0, .int .i64 0, .int .i64 0, .int .i64 0]
  | 10 => .put 9 #[.int .i64 k, .int .i64 a, .int .i64 b, .int .i64 c]
  | 11 => .val (.int .i64 0)
  | _ => .val undef
theorem kdA2_put (X m B : Nat) (px py k a b c : Int) (q aa : Nat) (cc : Array Value) (h : kdA2 X m B px py k a b c q = .put aa cc) (_h0 : 0 ≤ q) : q = aa + 1 := by
  unfold kdA2 at h
  split at h <;> simp at h <;> omega

def valsA9 (X g gn L pc nc kk mi B : Nat) (ax ay bx by2 px py D1 D2 nk n : Int) : Nat → Value
  | 0 => .int .i64 (mi : Int)
  | 1 => .bool false
  | 2 => .bool false
  | 3 => .pointer (some ⟨X, 0, none⟩)
  | 4 => .pointer (some ⟨X, 0, none⟩)
  | 5 => .pointer (some ⟨X, 1, none⟩)
  | 6 => .slice (some ⟨g, 0, none⟩) L pc
  | 7 => .int .i64 (kk : Int)
  | 8 => .pointer (some ⟨g, kk * 2, none⟩)
  | 9 => .agg #[.int .i64 ax, .int .i64 ay]
  | 10 => .agg #[.int .i64 px, .int .i64 py]
  | 11 => .int .i64 D1
  | 12 => .pointer (some ⟨X, 0, none⟩)
  | 13 => .pointer (some ⟨X, 0, none⟩)
  | 14 => .pointer (some ⟨X, 1, none⟩)
  | 15 => .slice (some ⟨g, 0, none⟩) L pc
  | 16 => .int .i64 (mi : Int)
  | 17 => .pointer (some ⟨g, mi * 2, none⟩)
  | 18 => .agg #[.int .i64 bx, .int .i64 by2]
  | 19 => .agg #[.int .i64 px, .int .i64 py]
  | 20 => .int .i64 D2
  | 21 => .bool false
  | 22 => .bool false
  | 23 => .bool false
  | 24 => .pointer (some ⟨X, 0, none⟩)
  | 25 => .pointer (some ⟨X, 0, none⟩)
  | 26 => .pointer (some ⟨X, 1, none⟩)
  | 27 => .slice (some ⟨g, 0, none⟩) L pc
  | 28 => .int .i64 (kk : Int)
  | 29 => .pointer (some ⟨g, kk * 2, none⟩)
  | 30 => .agg #[.int .i64 ax, .int .i64 ay]
  | 31 => .agg #[.int .i64 px, .int .i64 py]
  | 32 => .int .i64 D1
  | 33 => .pointer (some ⟨X, 0, none⟩)
  | 34 => .pointer (some ⟨X, 0, none⟩)
  | 35 => .pointer (some ⟨X, 1, none⟩)
  | 36 => .slice (some ⟨g, 0, none⟩) L pc
  | 37 => .int .i64 (mi : Int)
  | 38 => .pointer (some ⟨g, mi * 2, none⟩)
  | 39 => .agg #[.int .i64 bx, .int .i64 by2]
  | 40 => .agg #[.int .i64 px, .int .i64 py]
  | 41 => .int .i64 D2
  | 42 => .bool true
  | 43 => .bool true
  | 44 => .pointer (some ⟨X, 0, none⟩)
  | 45 => .pointer (some ⟨X, 0, none⟩)
  | 46 => .pointer (some ⟨X, 2, none⟩)
  | 47 => .slice (some ⟨gn, 0, none⟩) L nc
  | 48 => .int .i64 (kk : Int)
  | 49 => .pointer (some ⟨gn, kk, none⟩)
  | 50 => .int .i64 nk
  | 51 => .int .i64 n
  | 52 => .bool false
  | 53 => .bool false
  | 54 => .bool false
  | _ => undef

def valsA8 (X g gn L pc nc kk mi B : Nat) (ax ay bx by2 px py D1 D2 : Int) : Nat → Value
  | 0 => .int .i64 (mi : Int)
  | 1 => .bool false
  | 2 => .bool false
  | 3 => .pointer (some ⟨X, 0, none⟩)
  | 4 => .pointer (some ⟨X, 0, none⟩)
  | 5 => .pointer (some ⟨X, 1, none⟩)
  | 6 => .slice (some ⟨g, 0, none⟩) L pc
  | 7 => .int .i64 (kk : Int)
  | 8 => .pointer (some ⟨g, kk * 2, none⟩)
  | 9 => .agg #[.int .i64 ax, .int .i64 ay]
  | 10 => .agg #[.int .i64 px, .int .i64 py]
  | 11 => .int .i64 D1
  | 12 => .pointer (some ⟨X, 0, none⟩)
  | 13 => .pointer (some ⟨X, 0, none⟩)
  | 14 => .pointer (some ⟨X, 1, none⟩)
  | 15 => .slice (some ⟨g, 0, none⟩) L pc
  | 16 => .int .i64 (mi : Int)
  | 17 => .pointer (some ⟨g, mi * 2, none⟩)
  | 18 => .agg #[.int .i64 bx, .int .i64 by2]
  | 19 => .agg #[.int .i64 px, .int .i64 py]
  | 20 => .int .i64 D2
  | 21 => .bool false
  | 22 => .bool false
  | 23 => .bool false
  | 24 => .pointer (some ⟨X, 0, none⟩)
  | 25 => .pointer (some ⟨X, 0, none⟩)
  | 26 => .pointer (some ⟨X, 1, none⟩)
  | 27 => .slice (some ⟨g, 0, none⟩) L pc
  | 28 => .int .i64 (kk : Int)
  | 29 => .pointer (some ⟨g, kk * 2, none⟩)
  | 30 => .agg #[.int .i64 ax, .int .i64 ay]
  | 31 => .agg #[.int .i64 px, .int .i64 py]
  | 32 => .int .i64 D1
  | 33 => .pointer (some ⟨X, 0, none⟩)
  | 34 => .pointer (some ⟨X, 0, none⟩)
  | 35 => .pointer (some ⟨X, 1, none⟩)
  | 36 => .slice (some ⟨g, 0, none⟩) L pc
  | 37 => .int .i64 (mi : Int)
  | 38 => .pointer (some ⟨g, mi * 2, none⟩)
  | 39 => .agg #[.int .i64 bx, .int .i64 by2]
  | 40 => .agg #[.int .i64 px, .int .i64 py]
  | 41 => .int .i64 D2
  | 42 => .bool false
  | 43 => .bool false
  | 53 => .bool false
  | 54 => .bool false
  | _ => undef

def kdA15 (X g gt L pc LT tc kk x y z : Nat) (ax ay bx by2 cx cy : Int) : Nat → KndX
  | 0 => .val (.pointer (some ⟨X, 0, none⟩))
  | 1 => .val (.pointer (some ⟨X, 0, none⟩))
  | 2 => .val (.pointer (some ⟨X, 1, none⟩))
  | 3 => .val (.slice (some ⟨g, 0, none⟩) L pc)
  | 4 => .val (.slice (some ⟨gt, 0, none⟩) LT tc)
  | 5 => .val (.int .i64 (kk : Int))
  | 6 => .val (.pointer (some ⟨gt, kk * 3, none⟩))
  | 7 => .val (.pointer (some ⟨gt, kk * 3, none⟩))
  | 8 => .val (.int .i64 (x : Int))
  | 9 => .val (.pointer (some ⟨g, x * 2, none⟩))
  | 10 => .val (.agg #[.int .i64 ax, .int .i64 ay])
  | 11 => .val (.pointer (some ⟨X, 0, none⟩))
  | 12 => .val (.pointer (some ⟨X, 0, none⟩))
  | 13 => .val (.pointer (some ⟨X, 1, none⟩))
  | 14 => .val (.slice (some ⟨g, 0, none⟩) L pc)
  | 15 => .val (.slice (some ⟨gt, 0, none⟩) LT tc)
  | 16 => .val (.int .i64 (kk : Int))
  | 17 => .val (.pointer (some ⟨gt, kk * 3, none⟩))
  | 18 => .val (.pointer (some ⟨gt, kk * 3 + 1, none⟩))
  | 19 => .val (.int .i64 (y : Int))
  | 20 => .val (.pointer (some ⟨g, y * 2, none⟩))
  | 21 => .val (.agg #[.int .i64 bx, .int .i64 by2])
  | 22 => .val (.pointer (some ⟨X, 0, none⟩))
  | 23 => .val (.pointer (some ⟨X, 0, none⟩))
  | 24 => .val (.pointer (some ⟨X, 1, none⟩))
  | 25 => .val (.slice (some ⟨g, 0, none⟩) L pc)
  | 26 => .val (.slice (some ⟨gt, 0, none⟩) LT tc)
  | 27 => .val (.int .i64 (kk : Int))
  | 28 => .val (.pointer (some ⟨gt, kk * 3, none⟩))
  | 29 => .val (.pointer (some ⟨gt, kk * 3 + 2, none⟩))
  | 30 => .val (.int .i64 (z : Int))
  | 31 => .val (.pointer (some ⟨g, z * 2, none⟩))
  | 32 => .val (.agg #[.int .i64 cx, .int .i64 cy])
  | 33 => .fresh 32 #[.int .i64 0, .int .i64 0]
  | 34 => .fresh 32 #[.int .i64 0, .int .i64 0]
  | 35 => .fresh 32 #[.int .i64 0, .int .i64 0]
  | 36 => .put 33 #[.int .i64 ax, .int .i64 ay]
  | 37 => .put 34 #[.int .i64 bx, .int .i64 by2]
  | 38 => .put 35 #[.int .i64 cx, .int .i64 cy]
  | _ => .val undef
theorem kdA15_put (X g gt L pc LT tc kk x y z : Nat) (ax ay bx by2 cx cy : Int) (q aa : Nat) (cc : Array Value) (h : kdA15 X g gt L pc LT tc kk x y z ax ay bx by2 cx cy q = .put aa cc) (_h0 : 0 ≤ q) : q = aa + 3 := by
  unfold kdA15 at h
  split at h <;> simp at h <;> omega

def valsA16 (ax ay bx by2 cx cy px py u v zz : Int) : Nat → Value
  | 0 => .agg #[.int .i64 ax, .int .i64 ay]
  | 1 => .agg #[.int .i64 bx, .int .i64 by2]
  | 2 => .agg #[.int .i64 px, .int .i64 py]
  | 3 => .int .i64 u
  | 4 => .agg #[.int .i64 bx, .int .i64 by2]
  | 5 => .agg #[.int .i64 cx, .int .i64 cy]
  | 6 => .agg #[.int .i64 px, .int .i64 py]
  | 7 => .int .i64 v
  | 8 => .agg #[.int .i64 cx, .int .i64 cy]
  | 9 => .agg #[.int .i64 ax, .int .i64 ay]
  | 10 => .agg #[.int .i64 px, .int .i64 py]
  | 11 => .int .i64 zz
  | 12 => .int .i64 u
  | 13 => .int .i64 v
  | 14 => .int .i64 zz
  | _ => undef

def kdA32 (X g L pc jj kk : Nat) (ax ay bx by2 : Int) : Nat → KndX
  | 0 => .val (.pointer (some ⟨X, 0, none⟩))
  | 1 => .val (.pointer (some ⟨X, 0, none⟩))
  | 2 => .val (.pointer (some ⟨X, 1, none⟩))
  | 3 => .val (.slice (some ⟨g, 0, none⟩) L pc)
  | 4 => .val (.int .i64 (jj : Int))
  | 5 => .val (.pointer (some ⟨g, jj * 2, none⟩))
  | 6 => .val (.agg #[.int .i64 ax, .int .i64 ay])
  | 7 => .val (.pointer (some ⟨X, 0, none⟩))
  | 8 => .val (.pointer (some ⟨X, 0, none⟩))
  | 9 => .val (.pointer (some ⟨X, 1, none⟩))
  | 10 => .val (.slice (some ⟨g, 0, none⟩) L pc)
  | 11 => .val (.int .i64 (kk : Int))
  | 12 => .val (.pointer (some ⟨g, kk * 2, none⟩))
  | 13 => .val (.agg #[.int .i64 bx, .int .i64 by2])
  | 14 => .fresh 32 #[.int .i64 0, .int .i64 0]
  | 15 => .fresh 32 #[.int .i64 0, .int .i64 0]
  | 16 => .put 14 #[.int .i64 ax, .int .i64 ay]
  | 17 => .put 15 #[.int .i64 bx, .int .i64 by2]
  | _ => .val undef
theorem kdA32_put (X g L pc jj kk : Nat) (ax ay bx by2 : Int) (q aa : Nat) (cc : Array Value) (h : kdA32 X g L pc jj kk ax ay bx by2 q = .put aa cc) (_h0 : 0 ≤ q) : q = aa + 2 := by
  unfold kdA32 at h
  split at h <;> simp at h <;> omega

set_option maxRecDepth 100000 in
set_option maxHeartbeats 16000000 in
theorem asked_core (X m g pc gn nc : Nat) (ta : Option Addr) (tc : Nat) (pts : List Pt) (ns : List Int) (ts : List T3) (px py n k a b c : Int) (mi : Nat) (w : World) (hl : pts.length ≤ 60) (hts : ts.length ≤ 4000)
    (M : AMem w X m g pc gn nc ta pts ns ts) (htr : ∀ t ∈ ts, 0 ≤ t.1 ∧ t.1 < pts.length ∧ 0 ≤ t.2.1 ∧ t.2.1 < pts.length ∧ 0 ≤ t.2.2 ∧ t.2.2 < pts.length) (hnear : AllNear pts) (hpn : Near px py) (F : AskF pts ns ts (px, py) n mi k a b c)
    (NR : ∀ W, Below w.heap.size w W → Calls Tryz.prog 8 #[.pointer (some ⟨m, 0, none⟩), .agg #[.int .i64 px, .int .i64 py]] W fun e w' => e = .returned (.tuple #[.int .i64 n, .int .i64 0]) ∧ Below W.heap.size W w')
    (LC : ∀ W, Below w.heap.size w W → Calls Tryz.prog 7 #[.pointer (some ⟨m, 0, none⟩), .agg #[.int .i64 px, .int .i64 py]] W fun e w' => e = .returned (.tuple #[.agg #[.int .i64 k, .int .i64 a, .int .i64 b, .int .i64 c], .int .i64 0]) ∧ Below W.heap.size W w')
    (AT : ∀ W, Below w.heap.size w W → Calls Tryz.prog 16 #[.pointer (some ⟨X, 0, none⟩), .int .i64 n] W fun e w' => e = .returned (.int .i64 (mi : Int)) ∧ Below W.heap.size W w')
    (ED : (∃ x y : Nat, x < y ∧ y < pts.length ∧ a = ns.getD x 0 ∧ b = ns.getD y 0 ∧ c = -1 ∧ onSeg (px, py) (ptAt pts x) (ptAt pts y)) → ∀ W, Below w.heap.size w W → Calls Tryz.prog 20 #[.pointer (some ⟨X, 0, none⟩), .agg #[.int .i64 k, .int .i64 a, .int .i64 b, .int .i64 c], .agg #[.int .i64 px, .int .i64 py]] W fun e w' => e = .returned (.bool true) ∧ Below W.heap.size W w') :
    Calls Tryz.prog 10 #[.pointer (some ⟨X, 0, none⟩), .slice ta ts.length tc, .agg #[.int .i64 px, .int .i64 py]] w fun e w' => e = .returned (.bool true) ∧ Below w.heap.size w w' := by
  have HF : Hid (AskF pts ns ts (px, py) n mi k a b c) := F
  have HED := Lib.hid ED
  have HAT := Lib.hid AT
  have HTR := Lib.hid htr
  have HNR := Lib.hid hnear
  have hpos : Hid (0 < pts.length) := Nat.lt_of_le_of_lt (Nat.zero_le _) F.hm
  clear F ED AT htr hnear
  go_enter Tryz.func10, Tryz.ntmps10
  go_wp2_with fail
  generalize hW : w.alloc (.cells #[.int .i64 px, .int .i64 py] 32) = W
  have hb0 : Below w.heap.size w W := by rw [← hW]; exact below1 _ _
  have BW : w.heap.size < W.heap.size := by rw [← hW]; simp
  have k4 : W.cell? ⟨w.heap.size, 0, none⟩ = some (.int .i64 px) := by rw [← hW]; simp [go_sem]
  have k5 : W.cell? ⟨w.heap.size, 1, none⟩ = some (.int .i64 py) := by rw [← hW]; simp [go_sem]
  have MW := M.below hb0
  have XW := MW.hX
  have x0 := MW.c0
  clear hW M
  go_cut [7, 8] (fun s7 s8 wx => s7 = .int .i64 n ∧ s8 = .int .i64 0 ∧ Below W.heap.size W wx)
  case first =>
    as_aux_lemma =>
    refine wp_region_invG (m := 11) (by kernel_rfl) (by kernel_rfl) (by kernel_rfl) (dsts := [some 29, some 30, some 31, some 32, some 33, some 34, some 28, some 35, some 36, some 7, some 8]) rfl (by kernel_rfl) (l := []) rfl (ValG W (valsA1 X m w.heap.size px py n)) ⟨(fun _ h => by cases h), (Below.refl _ _).drew⟩ ?_ ?_
    · refine (flS (flS (flS (flS (flS (flS (flS (flS (flS (flS (flS fl0 ?_) ?_) ?_) ?_) ?_) ?_) ?_) ?_) ?_) ?_) ?_)
      all_goals intro Ls σ wx hS hp hdn hun
      · exact runs rfl (gives_move (x := .tmp 0) rfl rfl (hS.step (i := 0) hS.bel)).toS
      · exact runs rfl (gives_nil (x := .tmp 29) rfl (show σ 0 = _ from hS.val 0 (hp 0 rfl)) (hS.step (i := 1) hS.bel)).toS
      · exact runs rfl (gives_field (T := 28) (x := .tmp 30) rfl (show σ 1 = _ from hS.val 1 (hp 1 rfl)) (run_fieldN0 _ _) (hS.step (i := 2) hS.bel)).toS
      · exact runs rfl (gives_load (T := 24) (x := .tmp 31) rfl (show σ 2 = _ from hS.val 2 (hp 2 rfl)) (run_load_mpX _ _ _ ((hS.bel.cell (p := ⟨X, 0, none⟩) XW).trans x0)) (hS.step (i := 3) hS.bel)).toS
      · exact runs rfl (gives_load (T := 32) (x := .tmp 5) rfl rfl (run_load_pt _ _ _ _ _ ((hS.bel.cell (p := ⟨w.heap.size, 0, none⟩) BW).trans k4) ((hS.bel.cell (p := ⟨w.heap.size, 1, none⟩) BW).trans k5)) (hS.step (i := 4) hS.bel)).toS
      · have e3 : σ 3 = _ := hS.val 3 (hp 3 rfl)
        have e4 : σ 4 = _ := hS.val 4 (hp 4 rfl)
        exact runs rfl (gives_call (f := 8) (args := [.pointer (some ⟨m, 0, none⟩), .agg #[.int .i64 px, .int .i64 py]]) rfl rfl (by show [σ 3, σ 4] = _; rw [e3, e4]; rfl) (by go_simp) ((NR wx (hb0.trans (hS.bel.mono hb0.size))).mono fun e w' h => ⟨_, h.1, hS.step (i := 5) (hS.bel.trans (h.2.mono hS.bel.size))⟩)).toS
      · exact runs rfl (gives_move (x := .tmp 34) rfl (show σ 5 = _ from hS.val 5 (hp 5 rfl)) (hS.step (i := 6) hS.bel)).toS
      · exact runs rfl (gives_extractX (x := .tmp 28) (i := 0) rfl (show σ 6 = _ from hS.val 6 (hp 6 rfl)) rfl (hS.step (i := 7) hS.bel)).toS
      · exact runs rfl (gives_extractX (x := .tmp 28) (i := 1) rfl (show σ 6 = _ from hS.val 6 (hp 6 rfl)) rfl (hS.step (i := 8) hS.bel)).toS
      · exact runs rfl (gives_asgF (x := .tmp 35) rfl (show σ 7 = _ from hS.val 7 (hp 7 rfl)) (hS.step (i := 9) hS.bel)).toS
      · exact runs rfl (gives_asgF (x := .tmp 36) rfl (show σ 8 = _ from hS.val 8 (hp 8 rfl)) (hS.step (i := 10) hS.bel)).toS
    · intro Ls σ wx hS hall
      have e9 : σ 9 = .int .i64 n := hS.val 9 (hall 9 (by omega))
      have e10 : σ 10 = .int .i64 0 := hS.val 10 (hall 10 (by omega))
      have hbx := hS.bel
      clear hS
      refine ⟨?_⟩
      simp only [lay, Act.put, List.drop_succ_cons, List.drop_zero, List.setIfInBounds_toArray, List.set_cons_succ, List.set_cons_zero, e9, e10]
      go_wp2_with fail
      go_meet
      exact ⟨rfl, rfl, hbx⟩
  case rest =>
  as_aux_lemma =>
  obtain ⟨rfl, rfl, hbq⟩ := hcut
  have hb1 : Below w.heap.size w wc := hb0.trans (hbq.mono hb0.size)
  have MV := MW.below hbq
  replace k4 := (hbq.cell (p := ⟨w.heap.size, 0, none⟩) BW).trans k4
  replace k5 := (hbq.cell (p := ⟨w.heap.size, 1, none⟩) BW).trans k5
  replace BW := Nat.lt_of_lt_of_le BW hbq.size
  replace XW := MV.hX
  replace x0 := MV.c0
  clear MW hb0 hbq NR
  generalize wc = V at *
  go_wp2_with fail
  go_cut [9, 10] (fun s9 s10 wx => ∃ Q, s9 = .pointer (some ⟨Q, 0, none⟩) ∧ s10 = .int .i64 0 ∧ V.heap.size ≤ Q ∧ wx.heap[Q]? = some (.cells #[.int .i64 k, .int .i64 a, .int .i64 b, .int .i64 c] 35 (0, 0)) ∧ Below V.heap.size V wx)
  case first =>
    as_aux_lemma =>
    have HKD := kdA2_put X m w.heap.size px py k a b c
    refine wp_region_inv (m := 12) (by kernel_rfl) (by kernel_rfl) (dsts := [some 38, some 39, some 40, some 41, some 42, some 43, some 37, some 44, some 45, some 9, none, some 10]) rfl (by kernel_rfl) (l := []) rfl (SowX V (kdA2 X m w.heap.size px py k a b c)) (SowX.start _ _ _) ?_ ?_
    · refine (flS (flS (flS (flS (flS (flS (flS (flS (flS (flS (flS (flS fl0 ?_) ?_) ?_) ?_) ?_) ?_) ?_) ?_) ?_) ?_) ?_) ?_)
      all_goals intro Ls σ wx hS hp hdn hun
      · exact (gives_move (x := .tmp 0) rfl rfl (hS.stepV (i := 0) rfl)).toS
      · exact (gives_nil (x := .tmp 38) rfl (show σ 0 = _ from hS.val 0 _ rfl (hp 0 rfl)) (hS.stepV (i := 1) rfl)).toS
      · exact (gives_field (T := 28) (x := .tmp 39) rfl (show σ 1 = _ from hS.val 1 _ rfl (hp 1 rfl)) (run_fieldN0 _ _) (hS.stepV (i := 2) rfl)).toS
      · exact (gives_load (T := 24) (x := .tmp 40) rfl (show σ 2 = _ from hS.val 2 _ rfl (hp 2 rfl)) (run_load_mpX _ _ _ ((hS.bel.cell (p := ⟨X, 0, none⟩) XW).trans x0)) (hS.stepV (i := 3) rfl)).toS
      · exact (gives_load (T := 32) (x := .tmp 5) rfl rfl (run_load_pt _ _ _ _ _ ((hS.bel.cell (p := ⟨w.heap.size, 0, none⟩) BW).trans k4) ((hS.bel.cell (p := ⟨w.heap.size, 1, none⟩) BW).trans k5)) (hS.stepV (i := 4) rfl)).toS
      · have e3 : σ 3 = _ := hS.val 3 _ rfl (hp 3 rfl)
        have e4 : σ 4 = _ := hS.val 4 _ rfl (hp 4 rfl)
        exact (gives_call (f := 7) (args := [.pointer (some ⟨m, 0, none⟩), .agg #[.int .i64 px, .int .i64 py]]) rfl rfl (by show [σ 3, σ 4] = _; rw [e3, e4]) (by go_simp) ((LC wx (hb1.trans (hS.bel.mono hb1.size))).mono fun e w' h => ⟨_, h.1, hS.stepC (i := 5) rfl h.2⟩)).toS
      · exact (gives_move (x := .tmp 43) rfl (show σ 5 = _ from hS.val 5 _ rfl (hp 5 rfl)) (hS.stepV (i := 6) rfl)).toS
      · exact (gives_extractX (x := .tmp 37) (i := 0) rfl (show σ 6 = _ from hS.val 6 _ rfl (hp 6 rfl)) rfl (hS.stepV (i := 7) rfl)).toS
      · exact (gives_extractX (x := .tmp 37) (i := 1) rfl (show σ 6 = _ from hS.val 6 _ rfl (hp 6 rfl)) rfl (hS.stepV (i := 8) rfl)).toS
      · refine (gives_alloc (T := 35) rfl (run_alloc_placeX _) (hS.stepF (i := 9) rfl (fun q c hq => ?_))).toS
        have hq2 : q = 10 := HKD q 9 c hq (by omega)
        subst hq2
        cases hlq : Ls 10 with
        | false => rfl
        | true => have := hdn 10 9 hlq rfl; rw [hun] at this; cases this
      · obtain ⟨bb, cur, e1, e2, e3, e4, e5⟩ := hS.fre 9 _ _ rfl (hp 9 rfl)
        obtain ⟨wn, s1, s2, s3, s4⟩ := st_place e3 e4
        exact gives_store (T := 35) (x := .tmp 9) (y := .tmp 44) rfl (show σ 9 = _ from e1) (show σ 7 = _ from hS.val 7 _ rfl (hp 7 rfl)) s1 (hS.stepP (i := 10) rfl rfl rfl (hp 9 rfl) e1 (fun q c hq => HKD q 9 c hq (by omega)) s2 s3 s4)
      · exact (gives_asgF (x := .tmp 45) rfl (show σ 8 = _ from hS.val 8 _ rfl (hp 8 rfl)) (hS.stepV (i := 11) rfl)).toS
    · intro Ls σ wx hS hall
      obtain ⟨b9, c9, e9, g9, hh9, hz9, hu9⟩ := hS.fre 9 _ _ rfl (hall 9 (by omega))
      obtain rfl := hu9 10 _ rfl (hall 10 (by omega))
      have e11 : σ 11 = .int .i64 0 := hS.val 11 _ rfl (hall 11 (by omega))
      refine ⟨?_⟩
      simp only [lay, Act.put, List.drop_succ_cons, List.drop_zero, List.setIfInBounds_toArray, List.set_cons_succ, List.set_cons_zero, e9, e11]
      go_wp2_with fail
      go_meet
      exact ⟨b9, rfl, rfl, g9, hh9, hS.bel⟩
  case rest =>
  as_aux_lemma =>
  obtain ⟨Q, rfl, rfl, hQ0, hQ, hbq⟩ := hcut
  have hb2 : Below w.heap.size w wc := hb1.trans (hbq.mono hb1.size)
  have MU := MV.below hbq
  replace k4 := (hbq.cell (p := ⟨w.heap.size, 0, none⟩) BW).trans k4
  replace k5 := (hbq.cell (p := ⟨w.heap.size, 1, none⟩) BW).trans k5
  replace BW := Nat.lt_of_lt_of_le BW hbq.size
  have hQl := lt_some hQ
  clear MV hb1 hbq LC x0 XW
  generalize wc = U at *
  generalize hB : w.heap.size = B at *
  have HB : Hid (w.heap.size = B) := hB
  clear hB
  have x1 := MU.c1
  have hne : ((pts.length : Int) == 0) = false := beq_eq_false_iff_ne.2 (by have := hpos.out; omega)
  go_upto_block 0 with fail
  go_cut [11, 12] (fun _ _ wx => Below U.heap.size U wx)
  case first =>
    as_aux_lemma =>
    go_wp2_with fail
    go_loopw [11, 12] (fun s11 s12 wr => ∃ kk : Nat, kk ≤ pts.length ∧ s11 = .int .i64 kk ∧ Below U.heap.size U wr) (fun s11 _ _ => pts.length - (intOf s11).toNat)
    case atStart => exact ⟨0, Nat.zero_le _, rfl, Below.refl _ _⟩
    case round =>
      obtain ⟨kk, hkk, rfl, hbr⟩ := hrel
      have MR := MU.below hbr
      have y1 := MR.c1
      by_cases hlt : kk < pts.length
      · have hbw := hb2.trans (hbr.mono (by have := hb2.size; have := HB.out; omega))
        have ATW := HAT.out wr hbw
        have hz : ((0 : Int) == 0) = true := rfl
        have hbest := HF.out.best kk hlt
        have htie := HF.out.tie kk hlt
        have hmi := HF.out.hm
        obtain ⟨d0, d1⟩ := MR.hp kk hlt
        obtain ⟨d2, d3⟩ := MR.hp mi hmi
        rw [Nat.zero_add] at d0 d1 d2 d3
        have dn := MR.hn kk hlt
        have nA : Near (pts.getD kk (0, 0)).1 (pts.getD kk (0, 0)).2 := HNR.out kk hlt
        have nB : Near (pts.getD mi (0, 0)).1 (pts.getD mi (0, 0)).2 := HNR.out mi hmi
        have hbest' : ¬ dst ((pts.getD kk (0, 0)).1, (pts.getD kk (0, 0)).2) (px, py) < dst ((pts.getD mi (0, 0)).1, (pts.getD mi (0, 0)).2) (px, py) := hbest
        have htie' : dst ((pts.getD kk (0, 0)).1, (pts.getD kk (0, 0)).2) (px, py) = dst ((pts.getD mi (0, 0)).1, (pts.getD mi (0, 0)).2) (px, py) → ¬ ns.getD kk 0 < n := htie
        clear hbest htie
        generalize (pts.getD kk (0, 0)).1 = ax at *
        generalize (pts.getD kk (0, 0)).2 = ay at *
        generalize (pts.getD mi (0, 0)).1 = bx at *
        generalize (pts.getD mi (0, 0)).2 = by2 at *
        generalize ns.getD kk 0 = nk at *
        have A1 := fun W => kapart_any _ _ _ _ W nA hpn
        have A2 := fun W => kapart_any _ _ _ _ W nB hpn
        generalize dst (ax, ay) (px, py) = D1 at *
        generalize dst (bx, by2) (px, py) = D2 at *
        have hy : IntKind.i64.wrap ((kk : Int) + 1) = (kk : Int) + 1 := wrap_id (by omega) (by omega)
        have hkl : (kk : Int) < (pts.length : Int) := by omega
        go_wp2_with (go_at_call 16; refine ATW.mono ?_; rintro e w' ⟨rfl, hb3⟩)
        have MV := MR.below hb3
        have x1 := MV.c1
        have x2 := MV.c2
        have XW := MV.hX
        have gW := MV.hg
        have gnW := MV.hgn
        replace d0 := (hb3.cell (p := ⟨g, kk * 2, none⟩) MR.hg).trans d0
        replace d1 := (hb3.cell (p := ⟨g, kk * 2 + 1, none⟩) MR.hg).trans d1
        replace d2 := (hb3.cell (p := ⟨g, mi * 2, none⟩) MR.hg).trans d2
        replace d3 := (hb3.cell (p := ⟨g, mi * 2 + 1, none⟩) MR.hg).trans d3
        replace dn := (hb3.cell (p := ⟨gn, kk, none⟩) MR.hgn).trans dn
        have hB3 : Below U.heap.size U w' := hbr.trans (hb3.mono hbr.size)
        have k4 := (hB3.cell (p := ⟨B, 0, none⟩) BW).trans k4
        have k5 := (hB3.cell (p := ⟨B, 1, none⟩) BW).trans k5
        have BWw := Nat.lt_of_lt_of_le BW hB3.size
        clear MV MR hbr hb3 ATW y1 hbw hne hz
        generalize w' = V at *
        have f1 : decide ((mi : Int) < 0) = false := decide_eq_false (by omega)
        have f2 : decide (D1 < D2) = false := decide_eq_false (by omega)
        go_cut [129] (fun s129 wx => s129 = .bool false ∧ Below V.heap.size V wx)
        case first =>
          as_aux_lemma =>
          by_cases hD : D1 = D2
          · have f3 : (D1 == D2) = true := by simpa using hD
            have f4 : decide (nk < n) = false := decide_eq_false (by have := htie' hD; omega)
            refine wp_region_invG (m := 55) (by kernel_rfl) (by kernel_rfl) (by kernel_rfl) (dsts := [some 75, some 76, some 77, some 78, some 79, some 80, some 81, some 82, some 83, some 84, some 85, some 86, some 87, some 88, some 89, some 90, some 91, some 92, some 93, some 94, some 95, some 96, some 97, some 98, some 99, some 100, some 101, some 102, some 103, some 104, some 105, some 106, some 107, some 108, some 109, some 110, some 111, some 112, some 113, some 114, some 115, some 116, some 117, some 118, some 119, some 120, some 121, some 122, some 123, some 124, some 125, some 126, some 127, some 128, some 129]) rfl (by kernel_rfl) (l := []) rfl (ValG V (valsA9 X g gn pts.length pc nc kk mi B ax ay bx by2 px py D1 D2 nk n)) ⟨(fun _ h => by cases h), (Below.refl _ _).drew⟩ ?_ ?_
            · refine (flS (flS (flS (flS (flS (flS (flS (flS (flS (flS (flS (flS (flS (flS (flS (flS (flS (flS (flS (flS (flS (flS (flS (flS (flS (flS (flS (flS (flS (flS (flS (flS (flS (flS (flS (flS (flS (flS (flS (flS (flS (flS (flS (flS (flS (flS (flS (flS (flS (flS (flS (flS (flS (flS (flS fl0 ?_) ?_) ?_) ?_) ?_) ?_) ?_) ?_) ?_) ?_) ?_) ?_) ?_) ?_) ?_) ?_) ?_) ?_) ?_) ?_) ?_) ?_) ?_) ?_) ?_) ?_) ?_) ?_) ?_) ?_) ?_) ?_) ?_) ?_) ?_) ?_) ?_) ?_) ?_) ?_) ?_) ?_) ?_) ?_) ?_) ?_) ?_) ?_) ?_) ?_) ?_) ?_) ?_) ?_) ?_)
              all_goals intro Ls σ wx hS hp hdn hun
              · exact runs rfl (gives_move (x := .tmp 12) rfl rfl (hS.step (i := 0) hS.bel)).toS
              · exact runs rfl (gives_bin (b := .lss) (x := .tmp 75) (y := .const (.int .i64 0)) rfl (show σ 0 = _ from hS.val 0 (hp 0 rfl)) rfl (run_ltF _ _ _ _ _ f1) (hS.step (i := 1) hS.bel)).toS
              · exact runs rfl (gives_move (x := .tmp 76) rfl (show σ 1 = _ from hS.val 1 (hp 1 rfl)) (hS.step (i := 2) hS.bel)).toS
              · exact runs (by show wantV (σ 2) false = true; rw [hS.val 2 (hp 2 rfl)]; rfl) (gives_move (x := .tmp 0) rfl rfl (hS.step (i := 3) hS.bel)).toS
              · exact runs (by show wantV (σ 2) false = true; rw [hS.val 2 (hp 2 rfl)]; rfl) (gives_nil (x := .tmp 78) rfl (show σ 3 = _ from hS.val 3 (hp 3 rfl)) (hS.step (i := 4) hS.bel)).toS
              · exact runs (by show wantV (σ 2) false = true; rw [hS.val 2 (hp 2 rfl)]; rfl) (gives_field (T := 28) (x := .tmp 79) rfl (show σ 4 = _ from hS.val 4 (hp 4 rfl)) (run_fieldN1 _ _) (hS.step (i := 5) hS.bel)).toS
              · exact runs (by show wantV (σ 2) false = true; rw [hS.val 2 (hp 2 rfl)]; rfl) (gives_load (T := 22) (x := .tmp 80) rfl (show σ 5 = _ from hS.val 5 (hp 5 rfl)) (run_load_pts _ _ _ _ ((hS.bel.cell (p := ⟨X, 1, none⟩) XW).trans x1)) (hS.step (i := 6) hS.bel)).toS
              · exact runs (by show wantV (σ 2) false = true; rw [hS.val 2 (hp 2 rfl)]; rfl) (gives_move (x := .tmp 11) rfl rfl (hS.step (i := 7) hS.bel)).toS
              · exact runs (by show wantV (σ 2) false = true; rw [hS.val 2 (hp 2 rfl)]; rfl) (gives_index (T := 22) (x := .tmp 81) (y := .tmp 82) rfl (show σ 6 = _ from hS.val 6 (hp 6 rfl)) (show σ 7 = _ from hS.val 7 (hp 7 rfl)) (run_index_pt _ _ _ _ _ hlt) (hS.step (i := 8) hS.bel)).toS
              · exact runs (by show wantV (σ 2) false = true; rw [hS.val 2 (hp 2 rfl)]; rfl) (gives_load (T := 32) (x := .tmp 83) rfl (show σ 8 = _ from hS.val 8 (hp 8 rfl)) (run_load_pt _ _ _ _ _ ((hS.bel.cell (p := ⟨g, kk * 2, none⟩) gW).trans d0) ((hS.bel.cell (p := ⟨g, kk * 2 + 1, none⟩) gW).trans d1)) (hS.step (i := 9) hS.bel)).toS
              · exact runs (by show wantV (σ 2) false = true; rw [hS.val 2 (hp 2 rfl)]; rfl) (gives_load (T := 32) (x := .tmp 5) rfl rfl (run_load_pt _ _ _ _ _ ((hS.bel.cell (p := ⟨B, 0, none⟩) BWw).trans k4) ((hS.bel.cell (p := ⟨B, 1, none⟩) BWw).trans k5)) (hS.step (i := 10) hS.bel)).toS
              · have e9 : σ 9 = _ := hS.val 9 (hp 9 rfl)
                have e10 : σ 10 = _ := hS.val 10 (hp 10 rfl)
                exact runs (by show wantV (σ 2) false = true; rw [hS.val 2 (hp 2 rfl)]; rfl) (gives_call (f := 18) (args := [.agg #[.int .i64 ax, .int .i64 ay], .agg #[.int .i64 px, .int .i64 py]]) rfl rfl (by show [σ 9, σ 10] = _; rw [e9, e10]; rfl) (by go_simp) ((A1 wx).mono fun e w' h => ⟨_, h.1, hS.step (i := 11) (hS.bel.trans (h.2.mono hS.bel.size))⟩)).toS
              · exact runs (by show wantV (σ 2) false = true; rw [hS.val 2 (hp 2 rfl)]; rfl) (gives_move (x := .tmp 0) rfl rfl (hS.step (i := 12) hS.bel)).toS
              · exact runs (by show wantV (σ 2) false = true; rw [hS.val 2 (hp 2 rfl)]; rfl) (gives_nil (x := .tmp 87) rfl (show σ 12 = _ from hS.val 12 (hp 12 rfl)) (hS.step (i := 13) hS.bel)).toS
              · exact runs (by show wantV (σ 2) false = true; rw [hS.val 2 (hp 2 rfl)]; rfl) (gives_field (T := 28) (x := .tmp 88) rfl (show σ 13 = _ from hS.val 13 (hp 13 rfl)) (run_fieldN1 _ _) (hS.step (i := 14) hS.bel)).toS
              · exact runs (by show wantV (σ 2) false = true; rw [hS.val 2 (hp 2 rfl)]; rfl) (gives_load (T := 22) (x := .tmp 89) rfl (show σ 14 = _ from hS.val 14 (hp 14 rfl)) (run_load_pts _ _ _ _ ((hS.bel.cell (p := ⟨X, 1, none⟩) XW).trans x1)) (hS.step (i := 15) hS.bel)).toS
              · exact runs (by show wantV (σ 2) false = true; rw [hS.val 2 (hp 2 rfl)]; rfl) (gives_move (x := .tmp 12) rfl rfl (hS.step (i := 16) hS.bel)).toS
              · exact runs (by show wantV (σ 2) false = true; rw [hS.val 2 (hp 2 rfl)]; rfl) (gives_index (T := 22) (x := .tmp 90) (y := .tmp 91) rfl (show σ 15 = _ from hS.val 15 (hp 15 rfl)) (show σ 16 = _ from hS.val 16 (hp 16 rfl)) (run_index_pt _ _ _ _ _ hmi) (hS.step (i := 17) hS.bel)).toS
              · exact runs (by show wantV (σ 2) false = true; rw [hS.val 2 (hp 2 rfl)]; rfl) (gives_load (T := 32) (x := .tmp 92) rfl (show σ 17 = _ from hS.val 17 (hp 17 rfl)) (run_load_pt _ _ _ _ _ ((hS.bel.cell (p := ⟨g, mi * 2, none⟩) gW).trans d2) ((hS.bel.cell (p := ⟨g, mi * 2 + 1, none⟩) gW).trans d3)) (hS.step (i := 18) hS.bel)).toS
              · exact runs (by show wantV (σ 2) false = true; rw [hS.val 2 (hp 2 rfl)]; rfl) (gives_load (T := 32) (x := .tmp 5) rfl rfl (run_load_pt _ _ _ _ _ ((hS.bel.cell (p := ⟨B, 0, none⟩) BWw).trans k4) ((hS.bel.cell (p := ⟨B, 1, none⟩) BWw).trans k5)) (hS.step (i := 19) hS.bel)).toS
              · have e18 : σ 18 = _ := hS.val 18 (hp 18 rfl)
                have e19 : σ 19 = _ := hS.val 19 (hp 19 rfl)
                exact runs (by show wantV (σ 2) false = true; rw [hS.val 2 (hp 2 rfl)]; rfl) (gives_call (f := 18) (args := [.agg #[.int .i64 bx, .int .i64 by2], .agg #[.int .i64 px, .int .i64 py]]) rfl rfl (by show [σ 18, σ 19] = _; rw [e18, e19]; rfl) (by go_simp) ((A2 wx).mono fun e w' h => ⟨_, h.1, hS.step (i := 20) (hS.bel.trans (h.2.mono hS.bel.size))⟩)).toS
              · exact runs (by show wantV (σ 2) false = true; rw [hS.val 2 (hp 2 rfl)]; rfl) (gives_bin (b := .lss) (x := .tmp 86) (y := .tmp 95) rfl (show σ 11 = _ from hS.val 11 (hp 11 rfl)) (show σ 20 = _ from hS.val 20 (hp 20 rfl)) (run_ltF _ _ _ _ _ f2) (hS.step (i := 21) hS.bel)).toS
              · exact runs rfl (gives_pickF (c := .tmp 77) (b := .tmp 96) rfl (show σ 2 = _ from hS.val 2 (hp 2 rfl)) (show σ 21 = _ from hS.val 21 (hp 21 rfl)) (hS.step (i := 22) hS.bel)).toS
              · exact runs rfl (gives_move (x := .tmp 97) rfl (show σ 22 = _ from hS.val 22 (hp 22 rfl)) (hS.step (i := 23) hS.bel)).toS
              · exact runs (by show wantV (σ 23) false = true; rw [hS.val 23 (hp 23 rfl)]; rfl) (gives_move (x := .tmp 0) rfl rfl (hS.step (i := 24) hS.bel)).toS
              · exact runs (by show wantV (σ 23) false = true; rw [hS.val 23 (hp 23 rfl)]; rfl) (gives_nil (x := .tmp 99) rfl (show σ 24 = _ from hS.val 24 (hp 24 rfl)) (hS.step (i := 25) hS.bel)).toS
              · exact runs (by show wantV (σ 23) false = true; rw [hS.val 23 (hp 23 rfl)]; rfl) (gives_field (T := 28) (x := .tmp 100) rfl (show σ 25 = _ from hS.val 25 (hp 25 rfl)) (run_fieldN1 _ _) (hS.step (i := 26) hS.bel)).toS
              · exact runs (by show wantV (σ 23) false = true; rw [hS.val 23 (hp 23 rfl)]; rfl) (gives_load (T := 22) (x := .tmp 101) rfl (show σ 26 = _ from hS.val 26 (hp 26 rfl)) (run_load_pts _ _ _ _ ((hS.bel.cell (p := ⟨X, 1, none⟩) XW).trans x1)) (hS.step (i := 27) hS.bel)).toS
              · exact runs (by show wantV (σ 23) false = true; rw [hS.val 23 (hp 23 rfl)]; rfl) (gives_move (x := .tmp 11) rfl rfl (hS.step (i := 28) hS.bel)).toS
              · exact runs (by show wantV (σ 23) false = true; rw [hS.val 23 (hp 23 rfl)]; rfl) (gives_index (T := 22) (x := .tmp 102) (y := .tmp 103) rfl (show σ 27 = _ from hS.val 27 (hp 27 rfl)) (show σ 28 = _ from hS.val 28 (hp 28 rfl)) (run_index_pt _ _ _ _ _ hlt) (hS.step (i := 29) hS.bel)).toS
              · exact runs (by show wantV (σ 23) false = true; rw [hS.val 23 (hp 23 rfl)]; rfl) (gives_load (T := 32) (x := .tmp 104) rfl (show σ 29 = _ from hS.val 29 (hp 29 rfl)) (run_load_pt _ _ _ _ _ ((hS.bel.cell (p := ⟨g, kk * 2, none⟩) gW).trans d0) ((hS.bel.cell (p := ⟨g, kk * 2 + 1, none⟩) gW).trans d1)) (hS.step (i := 30) hS.bel)).toS
              · exact runs (by show wantV (σ 23) false = true; rw [hS.val 23 (hp 23 rfl)]; rfl) (gives_load (T := 32) (x := .tmp 5) rfl rfl (run_load_pt _ _ _ _ _ ((hS.bel.cell (p := ⟨B, 0, none⟩) BWw).trans k4) ((hS.bel.cell (p := ⟨B, 1, none⟩) BWw).trans k5)) (hS.step (i := 31) hS.bel)).toS
              · have e30 : σ 30 = _ := hS.val 30 (hp 30 rfl)
                have e31 : σ 31 = _ := hS.val 31 (hp 31 rfl)
                exact runs (by show wantV (σ 23) false = true; rw [hS.val 23 (hp 23 rfl)]; rfl) (gives_call (f := 18) (args := [.agg #[.int .i64 ax, .int .i64 ay], .agg #[.int .i64 px, .int .i64 py]]) rfl rfl (by show [σ 30, σ 31] = _; rw [e30, e31]; rfl) (by go_simp) ((A1 wx).mono fun e w' h => ⟨_, h.1, hS.step (i := 32) (hS.bel.trans (h.2.mono hS.bel.size))⟩)).toS
              · exact runs (by show wantV (σ 23) false = true; rw [hS.val 23 (hp 23 rfl)]; rfl) (gives_move (x := .tmp 0) rfl rfl (hS.step (i := 33) hS.bel)).toS
              · exact runs (by show wantV (σ 23) false = true; rw [hS.val 23 (hp 23 rfl)]; rfl) (gives_nil (x := .tmp 108) rfl (show σ 33 = _ from hS.val 33 (hp 33 rfl)) (hS.step (i := 34) hS.bel)).toS
              · exact runs (by show wantV (σ 23) false = true; rw [hS.val 23 (hp 23 rfl)]; rfl) (gives_field (T := 28) (x := .tmp 109) rfl (show σ 34 = _ from hS.val 34 (hp 34 rfl)) (run_fieldN1 _ _) (hS.step (i := 35) hS.bel)).toS
              · exact runs (by show wantV (σ 23) false = true; rw [hS.val 23 (hp 23 rfl)]; rfl) (gives_load (T := 22) (x := .tmp 110) rfl (show σ 35 = _ from hS.val 35 (hp 35 rfl)) (run_load_pts _ _ _ _ ((hS.bel.cell (p := ⟨X, 1, none⟩) XW).trans x1)) (hS.step (i := 36) hS.bel)).toS
              · exact runs (by show wantV (σ 23) false = true; rw [hS.val 23 (hp 23 rfl)]; rfl) (gives_move (x := .tmp 12) rfl rfl (hS.step (i := 37) hS.bel)).toS
              · exact runs (by show wantV (σ 23) false = true; rw [hS.val 23 (hp 23 rfl)]; rfl) (gives_index (T := 22) (x := .tmp 111) (y := .tmp 112) rfl (show σ 36 = _ from hS.val 36 (hp 36 rfl)) (show σ 37 = _ from hS.val 37 (hp 37 rfl)) (run_index_pt _ _ _ _ _ hmi) (hS.step (i := 38) hS.bel)).toS
              · exact runs (by show wantV (σ 23) false = true; rw [hS.val 23 (hp 23 rfl)]; rfl) (gives_load (T := 32) (x := .tmp 113) rfl (show σ 38 = _ from hS.val 38 (hp 38 rfl)) (run_load_pt _ _ _ _ _ ((hS.bel.cell (p := ⟨g, mi * 2, none⟩) gW).trans d2) ((hS.bel.cell (p := ⟨g, mi * 2 + 1, none⟩) gW).trans d3)) (hS.step (i := 39) hS.bel)).toS
              · exact runs (by show wantV (σ 23) false = true; rw [hS.val 23 (hp 23 rfl)]; rfl) (gives_load (T := 32) (x := .tmp 5) rfl rfl (run_load_pt _ _ _ _ _ ((hS.bel.cell (p := ⟨B, 0, none⟩) BWw).trans k4) ((hS.bel.cell (p := ⟨B, 1, none⟩) BWw).trans k5)) (hS.step (i := 40) hS.bel)).toS
              · have e39 : σ 39 = _ := hS.val 39 (hp 39 rfl)
                have e40 : σ 40 = _ := hS.val 40 (hp 40 rfl)
                exact runs (by show wantV (σ 23) false = true; rw [hS.val 23 (hp 23 rfl)]; rfl) (gives_call (f := 18) (args := [.agg #[.int .i64 bx, .int .i64 by2], .agg #[.int .i64 px, .int .i64 py]]) rfl rfl (by show [σ 39, σ 40] = _; rw [e39, e40]; rfl) (by go_simp) ((A2 wx).mono fun e w' h => ⟨_, h.1, hS.step (i := 41) (hS.bel.trans (h.2.mono hS.bel.size))⟩)).toS
              · exact runs (by show wantV (σ 23) false = true; rw [hS.val 23 (hp 23 rfl)]; rfl) (gives_bin (b := .eql) (x := .tmp 107) (y := .tmp 116) rfl (show σ 32 = _ from hS.val 32 (hp 32 rfl)) (show σ 41 = _ from hS.val 41 (hp 41 rfl)) (run_eqT _ _ _ _ _ f3) (hS.step (i := 42) hS.bel)).toS
              · exact runs (by show wantV (σ 23) false = true; rw [hS.val 23 (hp 23 rfl)]; rfl) (gives_move (x := .tmp 117) rfl (show σ 42 = _ from hS.val 42 (hp 42 rfl)) (hS.step (i := 43) hS.bel)).toS
              · exact runs (by show wantV (σ 43) true = true; rw [hS.val 43 (hp 43 rfl)]; rfl) (gives_move (x := .tmp 0) rfl rfl (hS.step (i := 44) hS.bel)).toS
              · exact runs (by show wantV (σ 43) true = true; rw [hS.val 43 (hp 43 rfl)]; rfl) (gives_nil (x := .tmp 119) rfl (show σ 44 = _ from hS.val 44 (hp 44 rfl)) (hS.step (i := 45) hS.bel)).toS
              · exact runs (by show wantV (σ 43) true = true; rw [hS.val 43 (hp 43 rfl)]; rfl) (gives_field (T := 28) (x := .tmp 120) rfl (show σ 45 = _ from hS.val 45 (hp 45 rfl)) (run_fieldN2 _ _) (hS.step (i := 46) hS.bel)).toS
              · exact runs (by show wantV (σ 43) true = true; rw [hS.val 43 (hp 43 rfl)]; rfl) (gives_load (T := 26) (x := .tmp 121) rfl (show σ 46 = _ from hS.val 46 (hp 46 rfl)) (run_load_numsF _ _ _ _ ((hS.bel.cell (p := ⟨X, 2, none⟩) XW).trans x2)) (hS.step (i := 47) hS.bel)).toS
              · exact runs (by show wantV (σ 43) true = true; rw [hS.val 43 (hp 43 rfl)]; rfl) (gives_move (x := .tmp 11) rfl rfl (hS.step (i := 48) hS.bel)).toS
              · exact runs (by show wantV (σ 43) true = true; rw [hS.val 43 (hp 43 rfl)]; rfl) (gives_index (T := 26) (x := .tmp 122) (y := .tmp 123) rfl (show σ 47 = _ from hS.val 47 (hp 47 rfl)) (show σ 48 = _ from hS.val 48 (hp 48 rfl)) (run_index_numF _ _ _ _ _ hlt) (hS.step (i := 49) hS.bel)).toS
              · exact runs (by show wantV (σ 43) true = true; rw [hS.val 43 (hp 43 rfl)]; rfl) (gives_load (T := 3) (x := .tmp 124) rfl (show σ 49 = _ from hS.val 49 (hp 49 rfl)) (run_load_int _ _ _ _ ((hS.bel.cell (p := ⟨gn, kk, none⟩) gnW).trans dn)) (hS.step (i := 50) hS.bel)).toS
              · exact runs (by show wantV (σ 43) true = true; rw [hS.val 43 (hp 43 rfl)]; rfl) (gives_move (x := .tmp 7) rfl rfl (hS.step (i := 51) hS.bel)).toS
              · exact runs (by show wantV (σ 43) true = true; rw [hS.val 43 (hp 43 rfl)]; rfl) (gives_bin (b := .lss) (x := .tmp 125) (y := .tmp 126) rfl (show σ 50 = _ from hS.val 50 (hp 50 rfl)) (show σ 51 = _ from hS.val 51 (hp 51 rfl)) (run_ltF _ _ _ _ _ f4) (hS.step (i := 52) hS.bel)).toS
              · exact runs (by show wantV (σ 23) false = true; rw [hS.val 23 (hp 23 rfl)]; rfl) (gives_pickT (c := .tmp 118) (a := .tmp 127) rfl (show σ 43 = _ from hS.val 43 (hp 43 rfl)) (show σ 52 = _ from hS.val 52 (hp 52 rfl)) (hS.step (i := 53) hS.bel)).toS
              · exact runs rfl (gives_pickF (c := .tmp 98) (b := .tmp 128) rfl (show σ 23 = _ from hS.val 23 (hp 23 rfl)) (show σ 53 = _ from hS.val 53 (hp 53 rfl)) (hS.step (i := 54) hS.bel)).toS
            · intro Ls σ wx hS hall
              have e54 : σ 54 = .bool false := hS.val 54 (hall 54 (by omega))
              have hbx := hS.bel
              clear hS
              refine ⟨?_⟩
              simp only [lay, Act.put, List.drop_succ_cons, List.drop_zero, List.setIfInBounds_toArray, List.set_cons_succ, List.set_cons_zero, e54]
              go_wp2_with fail
              go_meet
              exact ⟨rfl, hbx⟩
          · have f3 : (D1 == D2) = false := by simpa using hD
            refine wp_region_invG (m := 55) (by kernel_rfl) (by kernel_rfl) (by kernel_rfl) (dsts := [some 75, some 76, some 77, some 78, some 79, some 80, some 81, some 82, some 83, some 84, some 85, some 86, some 87, some 88, some 89, some 90, some 91, some 92, some 93, some 94, some 95, some 96, some 97, some 98, some 99, some 100, some 101, some 102, some 103, some 104, some 105, some 106, some 107, some 108, some 109, some 110, some 111, some 112, some 113, some 114, some 115, some 116, some 117, some 118, some 119, some 120, some 121, some 122, some 123, some 124, some 125, some 126, some 127, some 128, some 129]) rfl (by kernel_rfl) (l := []) rfl (ValG V (valsA8 X g gn pts.length pc nc kk mi B ax ay bx by2 px py D1 D2)) ⟨(fun _ h => by cases h), (Below.refl _ _).drew⟩ ?_ ?_
            · refine (flS (flS (flS (flS (flS (flS (flS (flS (flS (flS (flS (flS (flS (flS (flS (flS (flS (flS (flS (flS (flS (flS (flS (flS (flS (flS (flS (flS (flS (flS (flS (flS (flS (flS (flS (flS (flS (flS (flS (flS (flS (flS (flS (flS (flS (flS (flS (flS (flS (flS (flS (flS (flS (flS (flS fl0 ?_) ?_) ?_) ?_) ?_) ?_) ?_) ?_) ?_) ?_) ?_) ?_) ?_) ?_) ?_) ?_) ?_) ?_) ?_) ?_) ?_) ?_) ?_) ?_) ?_) ?_) ?_) ?_) ?_) ?_) ?_) ?_) ?_) ?_) ?_) ?_) ?_) ?_) ?_) ?_) ?_) ?_) ?_) ?_) ?_) ?_) ?_) ?_) ?_) ?_) ?_) ?_) ?_) ?_) ?_)
              all_goals intro Ls σ wx hS hp hdn hun
              · exact runs rfl (gives_move (x := .tmp 12) rfl rfl (hS.step (i := 0) hS.bel)).toS
              · exact runs rfl (gives_bin (b := .lss) (x := .tmp 75) (y := .const (.int .i64 0)) rfl (show σ 0 = _ from hS.val 0 (hp 0 rfl)) rfl (run_ltF _ _ _ _ _ f1) (hS.step (i := 1) hS.bel)).toS
              · exact runs rfl (gives_move (x := .tmp 76) rfl (show σ 1 = _ from hS.val 1 (hp 1 rfl)) (hS.step (i := 2) hS.bel)).toS
              · exact runs (by show wantV (σ 2) false = true; rw [hS.val 2 (hp 2 rfl)]; rfl) (gives_move (x := .tmp 0) rfl rfl (hS.step (i := 3) hS.bel)).toS
              · exact runs (by show wantV (σ 2) false = true; rw [hS.val 2 (hp 2 rfl)]; rfl) (gives_nil (x := .tmp 78) rfl (show σ 3 = _ from hS.val 3 (hp 3 rfl)) (hS.step (i := 4) hS.bel)).toS
              · exact runs (by show wantV (σ 2) false = true; rw [hS.val 2 (hp 2 rfl)]; rfl) (gives_field (T := 28) (x := .tmp 79) rfl (show σ 4 = _ from hS.val 4 (hp 4 rfl)) (run_fieldN1 _ _) (hS.step (i := 5) hS.bel)).toS
              · exact runs (by show wantV (σ 2) false = true; rw [hS.val 2 (hp 2 rfl)]; rfl) (gives_load (T := 22) (x := .tmp 80) rfl (show σ 5 = _ from hS.val 5 (hp 5 rfl)) (run_load_pts _ _ _ _ ((hS.bel.cell (p := ⟨X, 1, none⟩) XW).trans x1)) (hS.step (i := 6) hS.bel)).toS
              · exact runs (by show wantV (σ 2) false = true; rw [hS.val 2 (hp 2 rfl)]; rfl) (gives_move (x := .tmp 11) rfl rfl (hS.step (i := 7) hS.bel)).toS
              · exact runs (by show wantV (σ 2) false = true; rw [hS.val 2 (hp 2 rfl)]; rfl) (gives_index (T := 22) (x := .tmp 81) (y := .tmp 82) rfl (show σ 6 = _ from hS.val 6 (hp 6 rfl)) (show σ 7 = _ from hS.val 7 (hp 7 rfl)) (run_index_pt _ _ _ _ _ hlt) (hS.step (i := 8) hS.bel)).toS
              · exact runs (by show wantV (σ 2) false = true; rw [hS.val 2 (hp 2 rfl)]; rfl) (gives_load (T := 32) (x := .tmp 83) rfl (show σ 8 = _ from hS.val 8 (hp 8 rfl)) (run_load_pt _ _ _ _ _ ((hS.bel.cell (p := ⟨g, kk * 2, none⟩) gW).trans d0) ((hS.bel.cell (p := ⟨g, kk * 2 + 1, none⟩) gW).trans d1)) (hS.step (i := 9) hS.bel)).toS
              · exact runs (by show wantV (σ 2) false = true; rw [hS.val 2 (hp 2 rfl)]; rfl) (gives_load (T := 32) (x := .tmp 5) rfl rfl (run_load_pt _ _ _ _ _ ((hS.bel.cell (p := ⟨B, 0, none⟩) BWw).trans k4) ((hS.bel.cell (p := ⟨B, 1, none⟩) BWw).trans k5)) (hS.step (i := 10) hS.bel)).toS
              · have e9 : σ 9 = _ := hS.val 9 (hp 9 rfl)
                have e10 : σ 10 = _ := hS.val 10 (hp 10 rfl)
                exact runs (by show wantV (σ 2) false = true; rw [hS.val 2 (hp 2 rfl)]; rfl) (gives_call (f := 18) (args := [.agg #[.int .i64 ax, .int .i64 ay], .agg #[.int .i64 px, .int .i64 py]]) rfl rfl (by show [σ 9, σ 10] = _; rw [e9, e10]; rfl) (by go_simp) ((A1 wx).mono fun e w' h => ⟨_, h.1, hS.step (i := 11) (hS.bel.trans (h.2.mono hS.bel.size))⟩)).toS
              · exact runs (by show wantV (σ 2) false = true; rw [hS.val 2 (hp 2 rfl)]; rfl) (gives_move (x := .tmp 0) rfl rfl (hS.step (i := 12) hS.bel)).toS
              · exact runs (by show wantV (σ 2) false = true; rw [hS.val 2 (hp 2 rfl)]; rfl) (gives_nil (x := .tmp 87) rfl (show σ 12 = _ from hS.val 12 (hp 12 rfl)) (hS.step (i := 13) hS.bel)).toS
              · exact runs (by show wantV (σ 2) false = true; rw [hS.val 2 (hp 2 rfl)]; rfl) (gives_field (T := 28) (x := .tmp 88) rfl (show σ 13 = _ from hS.val 13 (hp 13 rfl)) (run_fieldN1 _ _) (hS.step (i := 14) hS.bel)).toS
              · exact runs (by show wantV (σ 2) false = true; rw [hS.val 2 (hp 2 rfl)]; rfl) (gives_load (T := 22) (x := .tmp 89) rfl (show σ 14 = _ from hS.val 14 (hp 14 rfl)) (run_load_pts _ _ _ _ ((hS.bel.cell (p := ⟨X, 1, none⟩) XW).trans x1)) (hS.step (i := 15) hS.bel)).toS
              · exact runs (by show wantV (σ 2) false = true; rw [hS.val 2 (hp 2 rfl)]; rfl) (gives_move (x := .tmp 12) rfl rfl (hS.step (i := 16) hS.bel)).toS
              · exact runs (by show wantV (σ 2) false = true; rw [hS.val 2 (hp 2 rfl)]; rfl) (gives_index (T := 22) (x := .tmp 90) (y := .tmp 91) rfl (show σ 15 = _ from hS.val 15 (hp 15 rfl)) (show σ 16 = _ from hS.val 16 (hp 16 rfl)) (run_index_pt _ _ _ _ _ hmi) (hS.step (i := 17) hS.bel)).toS
              · exact runs (by show wantV (σ 2) false = true; rw [hS.val 2 (hp 2 rfl)]; rfl) (gives_load (T := 32) (x := .tmp 92) rfl (show σ 17 = _ from hS.val 17 (hp 17 rfl)) (run_load_pt _ _ _ _ _ ((hS.bel.cell (p := ⟨g, mi * 2, none⟩) gW).trans d2) ((hS.bel.cell (p := ⟨g, mi * 2 + 1, none⟩) gW).trans d3)) (hS.step (i := 18) hS.bel)).toS
              · exact runs (by show wantV (σ 2) false = true; rw [hS.val 2 (hp 2 rfl)]; rfl) (gives_load (T := 32) (x := .tmp 5) rfl rfl (run_load_pt _ _ _ _ _ ((hS.bel.cell (p := ⟨B, 0, none⟩) BWw).trans k4) ((hS.bel.cell (p := ⟨B, 1, none⟩) BWw).trans k5)) (hS.step (i := 19) hS.bel)).toS
              · have e18 : σ 18 = _ := hS.val 18 (hp 18 rfl)
                have e19 : σ 19 = _ := hS.val 19 (hp 19 rfl)
                exact runs (by show wantV (σ 2) false = true; rw [hS.val 2 (hp 2 rfl)]; rfl) (gives_call (f := 18) (args := [.agg #[.int .i64 bx, .int .i64 by2], .agg #[.int .i64 px, .int .i64 py]]) rfl rfl (by show [σ 18, σ 19] = _; rw [e18, e19]; rfl) (by go_simp) ((A2 wx).mono fun e w' h => ⟨_, h.1, hS.step (i := 20) (hS.bel.trans (h.2.mono hS.bel.size))⟩)).toS
              · exact runs (by show wantV (σ 2) false = true; rw [hS.val 2 (hp 2 rfl)]; rfl) (gives_bin (b := .lss) (x := .tmp 86) (y := .tmp 95) rfl (show σ 11 = _ from hS.val 11 (hp 11 rfl)) (show σ 20 = _ from hS.val 20 (hp 20 rfl)) (run_ltF _ _ _ _ _ f2) (hS.step (i := 21) hS.bel)).toS
              · exact runs rfl (gives_pickF (c := .tmp 77) (b := .tmp 96) rfl (show σ 2 = _ from hS.val 2 (hp 2 rfl)) (show σ 21 = _ from hS.val 21 (hp 21 rfl)) (hS.step (i := 22) hS.bel)).toS
              · exact runs rfl (gives_move (x := .tmp 97) rfl (show σ 22 = _ from hS.val 22 (hp 22 rfl)) (hS.step (i := 23) hS.bel)).toS
              · exact runs (by show wantV (σ 23) false = true; rw [hS.val 23 (hp 23 rfl)]; rfl) (gives_move (x := .tmp 0) rfl rfl (hS.step (i := 24) hS.bel)).toS
              · exact runs (by show wantV (σ 23) false = true; rw [hS.val 23 (hp 23 rfl)]; rfl) (gives_nil (x := .tmp 99) rfl (show σ 24 = _ from hS.val 24 (hp 24 rfl)) (hS.step (i := 25) hS.bel)).toS
              · exact runs (by show wantV (σ 23) false = true; rw [hS.val 23 (hp 23 rfl)]; rfl) (gives_field (T := 28) (x := .tmp 100) rfl (show σ 25 = _ from hS.val 25 (hp 25 rfl)) (run_fieldN1 _ _) (hS.step (i := 26) hS.bel)).toS
              · exact runs (by show wantV (σ 23) false = true; rw [hS.val 23 (hp 23 rfl)]; rfl) (gives_load (T := 22) (x := .tmp 101) rfl (show σ 26 = _ from hS.val 26 (hp 26 rfl)) (run_load_pts _ _ _ _ ((hS.bel.cell (p := ⟨X, 1, none⟩) XW).trans x1)) (hS.step (i := 27) hS.bel)).toS
              · exact runs (by show wantV (σ 23) false = true; rw [hS.val 23 (hp 23 rfl)]; rfl) (gives_move (x := .tmp 11) rfl rfl (hS.step (i := 28) hS.bel)).toS
              · exact runs (by show wantV (σ 23) false = true; rw [hS.val 23 (hp 23 rfl)]; rfl) (gives_index (T := 22) (x := .tmp 102) (y := .tmp 103) rfl (show σ 27 = _ from hS.val 27 (hp 27 rfl)) (show σ 28 = _ from hS.val 28 (hp 28 rfl)) (run_index_pt _ _ _ _ _ hlt) (hS.step (i := 29) hS.bel)).toS
              · exact runs (by show wantV (σ 23) false = true; rw [hS.val 23 (hp 23 rfl)]; rfl) (gives_load (T := 32) (x := .tmp 104) rfl (show σ 29 = _ from hS.val 29 (hp 29 rfl)) (run_load_pt _ _ _ _ _ ((hS.bel.cell (p := ⟨g, kk * 2, none⟩) gW).trans d0) ((hS.bel.cell (p := ⟨g, kk * 2 + 1, none⟩) gW).trans d1)) (hS.step (i := 30) hS.bel)).toS
              · exact runs (by show wantV (σ 23) false = true; rw [hS.val 23 (hp 23 rfl)]; rfl) (gives_load (T := 32) (x := .tmp 5) rfl rfl (run_load_pt _ _ _ _ _ ((hS.bel.cell (p := ⟨B, 0, none⟩) BWw).trans k4) ((hS.bel.cell (p := ⟨B, 1, none⟩) BWw).trans k5)) (hS.step (i := 31) hS.bel)).toS
              · have e30 : σ 30 = _ := hS.val 30 (hp 30 rfl)
                have e31 : σ 31 = _ := hS.val 31 (hp 31 rfl)
                exact runs (by show wantV (σ 23) false = true; rw [hS.val 23 (hp 23 rfl)]; rfl) (gives_call (f := 18) (args := [.agg #[.int .i64 ax, .int .i64 ay], .agg #[.int .i64 px, .int .i64 py]]) rfl rfl (by show [σ 30, σ 31] = _; rw [e30, e31]; rfl) (by go_simp) ((A1 wx).mono fun e w' h => ⟨_, h.1, hS.step (i := 32) (hS.bel.trans (h.2.mono hS.bel.size))⟩)).toS
              · exact runs (by show wantV (σ 23) false = true; rw [hS.val 23 (hp 23 rfl)]; rfl) (gives_move (x := .tmp 0) rfl rfl (hS.step (i := 33) hS.bel)).toS
              · exact runs (by show wantV (σ 23) false = true; rw [hS.val 23 (hp 23 rfl)]; rfl) (gives_nil (x := .tmp 108) rfl (show σ 33 = _ from hS.val 33 (hp 33 rfl)) (hS.step (i := 34) hS.bel)).toS
              · exact runs (by show wantV (σ 23) false = true; rw [hS.val 23 (hp 23 rfl)]; rfl) (gives_field (T := 28) (x := .tmp 109) rfl (show σ 34 = _ from hS.val 34 (hp 34 rfl)) (run_fieldN1 _ _) (hS.step (i := 35) hS.bel)).toS
              · exact runs (by show wantV (σ 23) false = true; rw [hS.val 23 (hp 23 rfl)]; rfl) (gives_load (T := 22) (x := .tmp 110) rfl (show σ 35 = _ from hS.val 35 (hp 35 rfl)) (run_load_pts _ _ _ _ ((hS.bel.cell (p := ⟨X, 1, none⟩) XW).trans x1)) (hS.step (i := 36) hS.bel)).toS
              · exact runs (by show wantV (σ 23) false = true; rw [hS.val 23 (hp 23 rfl)]; rfl) (gives_move (x := .tmp 12) rfl rfl (hS.step (i := 37) hS.bel)).toS
              · exact runs (by show wantV (σ 23) false = true; rw [hS.val 23 (hp 23 rfl)]; rfl) (gives_index (T := 22) (x := .tmp 111) (y := .tmp 112) rfl (show σ 36 = _ from hS.val 36 (hp 36 rfl)) (show σ 37 = _ from hS.val 37 (hp 37 rfl)) (run_index_pt _ _ _ _ _ hmi) (hS.step (i := 38) hS.bel)).toS
              · exact runs (by show wantV (σ 23) false = true; rw [hS.val 23 (hp 23 rfl)]; rfl) (gives_load (T := 32) (x := .tmp 113) rfl (show σ 38 = _ from hS.val 38 (hp 38 rfl)) (run_load_pt _ _ _ _ _ ((hS.bel.cell (p := ⟨g, mi * 2, none⟩) gW).trans d2) ((hS.bel.cell (p := ⟨g, mi * 2 + 1, none⟩) gW).trans d3)) (hS.step (i := 39) hS.bel)).toS
              · exact runs (by show wantV (σ 23) false = true; rw [hS.val 23 (hp 23 rfl)]; rfl) (gives_load (T := 32) (x := .tmp 5) rfl rfl (run_load_pt _ _ _ _ _ ((hS.bel.cell (p := ⟨B, 0, none⟩) BWw).trans k4) ((hS.bel.cell (p := ⟨B, 1, none⟩) BWw).trans k5)) (hS.step (i := 40) hS.bel)).toS
              · have e39 : σ 39 = _ := hS.val 39 (hp 39 rfl)
                have e40 : σ 40 = _ := hS.val 40 (hp 40 rfl)
                exact runs (by show wantV (σ 23) false = true; rw [hS.val 23 (hp 23 rfl)]; rfl) (gives_call (f := 18) (args := [.agg #[.int .i64 bx, .int .i64 by2], .agg #[.int .i64 px, .int .i64 py]]) rfl rfl (by show [σ 39, σ 40] = _; rw [e39, e40]; rfl) (by go_simp) ((A2 wx).mono fun e w' h => ⟨_, h.1, hS.step (i := 41) (hS.bel.trans (h.2.mono hS.bel.size))⟩)).toS
              · exact runs (by show wantV (σ 23) false = true; rw [hS.val 23 (hp 23 rfl)]; rfl) (gives_bin (b := .eql) (x := .tmp 107) (y := .tmp 116) rfl (show σ 32 = _ from hS.val 32 (hp 32 rfl)) (show σ 41 = _ from hS.val 41 (hp 41 rfl)) (run_eqF _ _ _ _ _ f3) (hS.step (i := 42) hS.bel)).toS
              · exact runs (by show wantV (σ 23) false = true; rw [hS.val 23 (hp 23 rfl)]; rfl) (gives_move (x := .tmp 117) rfl (show σ 42 = _ from hS.val 42 (hp 42 rfl)) (hS.step (i := 43) hS.bel)).toS
              · exact skips (by show wantV (σ 43) true = false; rw [hS.val 43 (hp 43 rfl)]; rfl) (hS.step (i := 44) hS.bel)
              · exact skips (by show wantV (σ 43) true = false; rw [hS.val 43 (hp 43 rfl)]; rfl) (hS.step (i := 45) hS.bel)
              · exact skips (by show wantV (σ 43) true = false; rw [hS.val 43 (hp 43 rfl)]; rfl) (hS.step (i := 46) hS.bel)
              · exact skips (by show wantV (σ 43) true = false; rw [hS.val 43 (hp 43 rfl)]; rfl) (hS.step (i := 47) hS.bel)
              · exact skips (by show wantV (σ 43) true = false; rw [hS.val 43 (hp 43 rfl)]; rfl) (hS.step (i := 48) hS.bel)
              · exact skips (by show wantV (σ 43) true = false; rw [hS.val 43 (hp 43 rfl)]; rfl) (hS.step (i := 49) hS.bel)
              · exact skips (by show wantV (σ 43) true = false; rw [hS.val 43 (hp 43 rfl)]; rfl) (hS.step (i := 50) hS.bel)
              · exact skips (by show wantV (σ 43) true = false; rw [hS.val 43 (hp 43 rfl)]; rfl) (hS.step (i := 51) hS.bel)
              · exact skips (by show wantV (σ 43) true = false; rw [hS.val 43 (hp 43 rfl)]; rfl) (hS.step (i := 52) hS.bel)
              · exact runs (by show wantV (σ 23) false = true; rw [hS.val 23 (hp 23 rfl)]; rfl) (gives_pickF (c := .tmp 118) (b := .const (.bool false)) rfl (show σ 43 = _ from hS.val 43 (hp 43 rfl)) rfl (hS.step (i := 53) hS.bel)).toS
              · exact runs rfl (gives_pickF (c := .tmp 98) (b := .tmp 128) rfl (show σ 23 = _ from hS.val 23 (hp 23 rfl)) (show σ 53 = _ from hS.val 53 (hp 53 rfl)) (hS.step (i := 54) hS.bel)).toS
            · intro Ls σ wx hS hall
              have e54 : σ 54 = .bool false := hS.val 54 (hall 54 (by omega))
              have hbx := hS.bel
              clear hS
              refine ⟨?_⟩
              simp only [lay, Act.put, List.drop_succ_cons, List.drop_zero, List.setIfInBounds_toArray, List.set_cons_succ, List.set_cons_zero, e54]
              go_wp2_with fail
              go_meet
              exact ⟨rfl, hbx⟩
        case rest =>
          as_aux_lemma =>
          obtain ⟨rfl, hbx⟩ := hcut
          have hB4 := hB3.trans (hbx.mono hB3.size)
          clear d0 d1 d2 d3 dn x1 x2 k4 k5
          go_wp2
          go_roundw
          case rel => exact ⟨kk + 1, by omega, by go_num, hB4⟩
          case measure => simp [intOf]; omega
      · have hkl : ¬ (kk : Int) < (pts.length : Int) := by omega
        go_wp2
        go_meet
        exact hbr
  case rest =>
  as_aux_lemma =>
  have hb3 : Below B w wc := hb2.trans (hcut.mono (by have := hb2.size; have := HB.out; omega))
  have MV := MU.below hcut
  replace k4 := (hcut.cell (p := ⟨B, 0, none⟩) BW).trans k4
  replace k5 := (hcut.cell (p := ⟨B, 1, none⟩) BW).trans k5
  replace BW := Nat.lt_of_lt_of_le BW hcut.size
  replace hQ : wc.heap[Q]? = _ := (hcut.block Q hQl).trans hQ
  replace hQl := lt_some hQ
  clear MU hb2 hcut hne x1 hQ0
  generalize wc = V at *
  go_upto_block 2 with fail
  go_cut [13, 14, 15, 16, 17, 18, 19, 20, 21] (fun s13 s14 _ _ _ _ _ _ _ wx => s13 = .int .i64 (ts.countP (inB pts (px, py)) : Nat) ∧ s14 = .int .i64 (ts.countP (rimB pts (px, py)) : Nat) ∧ Below V.heap.size V wx)
  case first =>
    as_aux_lemma =>
    go_wp2_with fail
    go_loopw [13, 14, 15, 16, 17, 18, 19, 20, 21] (fun s13 s14 s15 _ _ _ _ _ _ wr => ∃ kk : Nat, kk ≤ ts.length ∧ s15 = .int .i64 kk ∧ s13 = .int .i64 ((ts.take kk).countP (inB pts (px, py)) : Nat) ∧ s14 = .int .i64 ((ts.take kk).countP (rimB pts (px, py)) : Nat) ∧ Below V.heap.size V wr) (fun _ _ s15 _ _ _ _ _ _ _ => ts.length - (intOf s15).toNat)
    case atStart => exact ⟨0, Nat.zero_le _, rfl, by simp, by simp, Below.refl _ _⟩
    case round =>
      obtain ⟨kk, hkk, rfl, rfl, rfl, hbr⟩ := hrel
      have cb1 : (ts.take kk).countP (inB pts (px, py)) ≤ 4000 := Nat.le_trans List.countP_le_length (by simp; omega)
      have cb2 : (ts.take kk).countP (rimB pts (px, py)) ≤ 4000 := Nat.le_trans List.countP_le_length (by simp; omega)
      by_cases hlt : kk < ts.length
      · have MR := MV.below hbr
        obtain ⟨gt, rfl, hgt, t0, t1, t2⟩ := MR.hT kk hlt
        have hmem : ts.getD kk (0, 0, 0) ∈ ts := by
          have : ts.getD kk (0, 0, 0) = ts[kk] := by simp [hlt]
          rw [this]; exact List.getElem_mem hlt
        have HC1 : Hid ((ts.take (kk + 1)).countP (inB pts (px, py)) = (ts.take kk).countP (inB pts (px, py)) + if inB pts (px, py) (ts.getD kk (0, 0, 0)) then 1 else 0) := by
          have e : ts.getD kk (0, 0, 0) = ts[kk] := by simp [hlt]
          unfold Hid
          rw [e, List.take_add_one, List.getElem?_eq_getElem hlt, Option.toList_some, List.countP_append, List.countP_singleton]
        have HC2 : Hid ((ts.take (kk + 1)).countP (rimB pts (px, py)) = (ts.take kk).countP (rimB pts (px, py)) + if rimB pts (px, py) (ts.getD kk (0, 0, 0)) then 1 else 0) := by
          have e : ts.getD kk (0, 0, 0) = ts[kk] := by simp [hlt]
          unfold Hid
          rw [e, List.take_add_one, List.getElem?_eq_getElem hlt, Option.toList_some, List.countP_append, List.countP_singleton]
        obtain ⟨h1, h2, h3, h4, h5, h6⟩ := HTR.out _ hmem
        have HIN : Hid (inB pts (px, py) (ts.getD kk (0, 0, 0)) = true → k = 1 ∧ a = ns.getD (ts.getD kk (0, 0, 0)).1.toNat 0 ∧ b = ns.getD (ts.getD kk (0, 0, 0)).2.1.toNat 0 ∧ c = ns.getD (ts.getD kk (0, 0, 0)).2.2.toNat 0) := HF.out.inn _ hmem
        obtain ⟨x, ex⟩ : ∃ x : Nat, (ts.getD kk (0, 0, 0)).1 = (x : Int) := ⟨(ts.getD kk (0, 0, 0)).1.toNat, by omega⟩
        obtain ⟨y, ey⟩ : ∃ y : Nat, (ts.getD kk (0, 0, 0)).2.1 = (y : Int) := ⟨(ts.getD kk (0, 0, 0)).2.1.toNat, by omega⟩
        obtain ⟨z, ez⟩ : ∃ z : Nat, (ts.getD kk (0, 0, 0)).2.2 = (z : Int) := ⟨(ts.getD kk (0, 0, 0)).2.2.toNat, by omega⟩
        rw [ex, ey, ez, Int.toNat_natCast, Int.toNat_natCast, Int.toNat_natCast] at HIN
        rw [ex] at t0 h1 h2
        rw [ey] at t1 h3 h4
        rw [ez] at t2 h5 h6
        have hx : x < pts.length := by omega
        have hy : y < pts.length := by omega
        have hz : z < pts.length := by omega
        obtain ⟨d0, d1⟩ := MR.hp x hx
        obtain ⟨d2, d3⟩ := MR.hp y hy
        obtain ⟨d4, d5⟩ := MR.hp z hz
        rw [Nat.zero_add] at d0 d1 d2 d3 d4 d5
        have m0 := MR.hn x hx
        have m1 := MR.hn y hy
        have m2 := MR.hn z hz
        have nA : Near (pts.getD x (0, 0)).1 (pts.getD x (0, 0)).2 := HNR.out x hx
        have nB : Near (pts.getD y (0, 0)).1 (pts.getD y (0, 0)).2 := HNR.out y hy
        have nC : Near (pts.getD z (0, 0)).1 (pts.getD z (0, 0)).2 := HNR.out z hz
        have pe : ∀ q : Nat, pOf pts (q : Int) = ptAt pts q := fun q => by unfold pOf; rw [Int.toNat_natCast]
        have SU : Hid (sI pts (px, py) (ts.getD kk (0, 0, 0)).1 (ts.getD kk (0, 0, 0)).2.1 = sideN (pts.getD x (0, 0)).1 (pts.getD x (0, 0)).2 (pts.getD y (0, 0)).1 (pts.getD y (0, 0)).2 px py) := by unfold Hid sI; rw [ex, ey, pe, pe]; rfl
        have SV : Hid (sI pts (px, py) (ts.getD kk (0, 0, 0)).2.1 (ts.getD kk (0, 0, 0)).2.2 = sideN (pts.getD y (0, 0)).1 (pts.getD y (0, 0)).2 (pts.getD z (0, 0)).1 (pts.getD z (0, 0)).2 px py) := by unfold Hid sI; rw [ey, ez, pe, pe]; rfl
        have SZ : Hid (sI pts (px, py) (ts.getD kk (0, 0, 0)).2.2 (ts.getD kk (0, 0, 0)).1 = sideN (pts.getD z (0, 0)).1 (pts.getD z (0, 0)).2 (pts.getD x (0, 0)).1 (pts.getD x (0, 0)).2 px py) := by unfold Hid sI; rw [ez, ex, pe, pe]; rfl
        clear ex ey ez pe hmem h1 h2 h3 h4 h5 h6
        generalize (pts.getD x (0, 0)).1 = ax at *
        generalize (pts.getD x (0, 0)).2 = ay at *
        generalize (pts.getD y (0, 0)).1 = bx at *
        generalize (pts.getD y (0, 0)).2 = by2 at *
        generalize (pts.getD z (0, 0)).1 = cx at *
        generalize (pts.getD z (0, 0)).2 = cy at *
        have S1 := fun W => kside_any _ _ _ _ _ _ W nA nB hpn
        have S2 := fun W => kside_any _ _ _ _ _ _ W nB nC hpn
        have S3 := fun W => kside_any _ _ _ _ _ _ W nC nA hpn
        generalize sideN ax ay bx by2 px py = u at *
        generalize sideN bx by2 cx cy px py = v at *
        generalize sideN cx cy ax ay px py = zz at *
        have x1 := MR.c1
        have x2 := MR.c2
        have XW := MR.hX
        have gW := MR.hg
        have gnW := MR.hgn
        have yk : IntKind.i64.wrap ((kk : Int) + 1) = (kk : Int) + 1 := wrap_id (by omega) (by omega)
        have hkl : (kk : Int) < (ts.length : Int) := by omega
        replace k4 := (hbr.cell (p := ⟨B, 0, none⟩) BW).trans k4
        replace k5 := (hbr.cell (p := ⟨B, 1, none⟩) BW).trans k5
        have BWr := Nat.lt_of_lt_of_le BW hbr.size
        have hQr : wr.heap[Q]? = _ := (hbr.block Q hQl).trans hQ
        have hQlr := lt_some hQr
        clear MR nA nB nC
        go_wp2_with fail
        go_cut [16, 17, 18] (fun s16 s17 s18 wx => ∃ p q r, s16 = .pointer (some ⟨p, 0, none⟩) ∧ s17 = .pointer (some ⟨q, 0, none⟩) ∧ s18 = .pointer (some ⟨r, 0, none⟩) ∧ p < wx.heap.size ∧ q < wx.heap.size ∧ r < wx.heap.size ∧
          wx.cell? ⟨p, 0, none⟩ = some (.int .i64 ax) ∧ wx.cell? ⟨p, 1, none⟩ = some (.int .i64 ay) ∧ wx.cell? ⟨q, 0, none⟩ = some (.int .i64 bx) ∧ wx.cell? ⟨q, 1, none⟩ = some (.int .i64 by2) ∧ wx.cell? ⟨r, 0, none⟩ = some (.int .i64 cx) ∧ wx.cell? ⟨r, 1, none⟩ = some (.int .i64 cy) ∧ Below wr.heap.size wr wx)
        case first =>
          as_aux_lemma =>
          have HKD := kdA15_put X g gt pts.length pc ts.length tc kk x y z ax ay bx by2 cx cy
          refine wp_region_inv (m := 39) (by kernel_rfl) (by kernel_rfl) (dsts := [some 136, some 137, some 138, some 139, some 140, some 141, some 142, some 143, some 144, some 145, some 146, some 147, some 148, some 149, some 150, some 151, some 152, some 153, some 154, some 155, some 156, some 157, some 158, some 159, some 160, some 161, some 162, some 163, some 164, some 165, some 166, some 167, some 168, some 16, some 17, some 18, none, none, none]) rfl (by kernel_rfl) (l := []) rfl (SowX wr (kdA15 X g gt pts.length pc ts.length tc kk x y z ax ay bx by2 cx cy)) (SowX.start _ _ _) ?_ ?_
          · refine (flS (flS (flS (flS (flS (flS (flS (flS (flS (flS (flS (flS (flS (flS (flS (flS (flS (flS (flS (flS (flS (flS (flS (flS (flS (flS (flS (flS (flS (flS (flS (flS (flS (flS (flS (flS (flS (flS (flS fl0 ?_) ?_) ?_) ?_) ?_) ?_) ?_) ?_) ?_) ?_) ?_) ?_) ?_) ?_) ?_) ?_) ?_) ?_) ?_) ?_) ?_) ?_) ?_) ?_) ?_) ?_) ?_) ?_) ?_) ?_) ?_) ?_) ?_) ?_) ?_) ?_) ?_) ?_) ?_)
            all_goals intro Ls σ wx hS hp hdn hun
            · exact (gives_move (x := .tmp 0) rfl rfl (hS.stepV (i := 0) rfl)).toS
            · exact (gives_nil (x := .tmp 136) rfl (show σ 0 = _ from hS.val 0 _ rfl (hp 0 rfl)) (hS.stepV (i := 1) rfl)).toS
            · exact (gives_field (T := 28) (x := .tmp 137) rfl (show σ 1 = _ from hS.val 1 _ rfl (hp 1 rfl)) (run_fieldN1 _ _) (hS.stepV (i := 2) rfl)).toS
            · exact (gives_load (T := 22) (x := .tmp 138) rfl (show σ 2 = _ from hS.val 2 _ rfl (hp 2 rfl)) (run_load_pts _ _ _ _ ((hS.bel.cell (p := ⟨X, 1, none⟩) XW).trans x1)) (hS.stepV (i := 3) rfl)).toS
            · exact (gives_move (x := .tmp 1) rfl rfl (hS.stepV (i := 4) rfl)).toS
            · exact (gives_move (x := .tmp 15) rfl rfl (hS.stepV (i := 5) rfl)).toS
            · exact (gives_index (T := 41) (x := .tmp 140) (y := .tmp 141) rfl (show σ 4 = _ from hS.val 4 _ rfl (hp 4 rfl)) (show σ 5 = _ from hS.val 5 _ rfl (hp 5 rfl)) (idx_trisN _ _ _ _ _ hlt) (hS.stepV (i := 6) rfl)).toS
            · exact (gives_index (T := 53) (x := .tmp 142) (y := .const (.int .i64 0)) rfl (show σ 6 = _ from hS.val 6 _ rfl (hp 6 rfl)) rfl (idx_arrN0 _ _ _) (hS.stepV (i := 7) rfl)).toS
            · exact (gives_load (T := 3) (x := .tmp 143) rfl (show σ 7 = _ from hS.val 7 _ rfl (hp 7 rfl)) (run_load_int _ _ _ _ ((hS.bel.cell (p := ⟨gt, kk * 3, none⟩) hgt).trans t0)) (hS.stepV (i := 8) rfl)).toS
            · exact (gives_index (T := 22) (x := .tmp 139) (y := .tmp 144) rfl (show σ 3 = _ from hS.val 3 _ rfl (hp 3 rfl)) (show σ 8 = _ from hS.val 8 _ rfl (hp 8 rfl)) (run_index_pt _ _ _ _ _ hx) (hS.stepV (i := 9) rfl)).toS
            · exact (gives_load (T := 32) (x := .tmp 145) rfl (show σ 9 = _ from hS.val 9 _ rfl (hp 9 rfl)) (run_load_pt _ _ _ _ _ ((hS.bel.cell (p := ⟨g, x * 2, none⟩) gW).trans d0) ((hS.bel.cell (p := ⟨g, x * 2 + 1, none⟩) gW).trans d1)) (hS.stepV (i := 10) rfl)).toS
            · exact (gives_move (x := .tmp 0) rfl rfl (hS.stepV (i := 11) rfl)).toS
            · exact (gives_nil (x := .tmp 147) rfl (show σ 11 = _ from hS.val 11 _ rfl (hp 11 rfl)) (hS.stepV (i := 12) rfl)).toS
            · exact (gives_field (T := 28) (x := .tmp 148) rfl (show σ 12 = _ from hS.val 12 _ rfl (hp 12 rfl)) (run_fieldN1 _ _) (hS.stepV (i := 13) rfl)).toS
            · exact (gives_load (T := 22) (x := .tmp 149) rfl (show σ 13 = _ from hS.val 13 _ rfl (hp 13 rfl)) (run_load_pts _ _ _ _ ((hS.bel.cell (p := ⟨X, 1, none⟩) XW).trans x1)) (hS.stepV (i := 14) rfl)).toS
            · exact (gives_move (x := .tmp 1) rfl rfl (hS.stepV (i := 15) rfl)).toS
            · exact (gives_move (x := .tmp 15) rfl rfl (hS.stepV (i := 16) rfl)).toS
            · exact (gives_index (T := 41) (x := .tmp 151) (y := .tmp 152) rfl (show σ 15 = _ from hS.val 15 _ rfl (hp 15 rfl)) (show σ 16 = _ from hS.val 16 _ rfl (hp 16 rfl)) (idx_trisN _ _ _ _ _ hlt) (hS.stepV (i := 17) rfl)).toS
            · exact (gives_index (T := 53) (x := .tmp 153) (y := .const (.int .i64 1)) rfl (show σ 17 = _ from hS.val 17 _ rfl (hp 17 rfl)) rfl (idx_arrN1 _ _ _) (hS.stepV (i := 18) rfl)).toS
            · exact (gives_load (T := 3) (x := .tmp 154) rfl (show σ 18 = _ from hS.val 18 _ rfl (hp 18 rfl)) (run_load_int _ _ _ _ ((hS.bel.cell (p := ⟨gt, kk * 3 + 1, none⟩) hgt).trans t1)) (hS.stepV (i := 19) rfl)).toS
            · exact (gives_index (T := 22) (x := .tmp 150) (y := .tmp 155) rfl (show σ 14 = _ from hS.val 14 _ rfl (hp 14 rfl)) (show σ 19 = _ from hS.val 19 _ rfl (hp 19 rfl)) (run_index_pt _ _ _ _ _ hy) (hS.stepV (i := 20) rfl)).toS
            · exact (gives_load (T := 32) (x := .tmp 156) rfl (show σ 20 = _ from hS.val 20 _ rfl (hp 20 rfl)) (run_load_pt _ _ _ _ _ ((hS.bel.cell (p := ⟨g, y * 2, none⟩) gW).trans d2) ((hS.bel.cell (p := ⟨g, y * 2 + 1, none⟩) gW).trans d3)) (hS.stepV (i := 21) rfl)).toS
            · exact (gives_move (x := .tmp 0) rfl rfl (hS.stepV (i := 22) rfl)).toS
            · exact (gives_nil (x := .tmp 158) rfl (show σ 22 = _ from hS.val 22 _ rfl (hp 22 rfl)) (hS.stepV (i := 23) rfl)).toS
            · exact (gives_field (T := 28) (x := .tmp 159) rfl (show σ 23 = _ from hS.val 23 _ rfl (hp 23 rfl)) (run_fieldN1 _ _) (hS.stepV (i := 24) rfl)).toS
            · exact (gives_load (T := 22) (x := .tmp 160) rfl (show σ 24 = _ from hS.val 24 _ rfl (hp 24 rfl)) (run_load_pts _ _ _ _ ((hS.bel.cell (p := ⟨X, 1, none⟩) XW).trans x1)) (hS.stepV (i := 25) rfl)).toS
            · exact (gives_move (x := .tmp 1) rfl rfl (hS.stepV (i := 26) rfl)).toS
            · exact (gives_move (x := .tmp 15) rfl rfl (hS.stepV (i := 27) rfl)).toS
            · exact (gives_index (T := 41) (x := .tmp 162) (y := .tmp 163) rfl (show σ 26 = _ from hS.val 26 _ rfl (hp 26 rfl)) (show σ 27 = _ from hS.val 27 _ rfl (hp 27 rfl)) (idx_trisN _ _ _ _ _ hlt) (hS.stepV (i := 28) rfl)).toS
            · exact (gives_index (T := 53) (x := .tmp 164) (y := .const (.int .i64 2)) rfl (show σ 28 = _ from hS.val 28 _ rfl (hp 28 rfl)) rfl (idx_arrN2 _ _ _) (hS.stepV (i := 29) rfl)).toS
            · exact (gives_load (T := 3) (x := .tmp 165) rfl (show σ 29 = _ from hS.val 29 _ rfl (hp 29 rfl)) (run_load_int _ _ _ _ ((hS.bel.cell (p := ⟨gt, kk * 3 + 2, none⟩) hgt).trans t2)) (hS.stepV (i := 30) rfl)).toS
            · exact (gives_index (T := 22) (x := .tmp 161) (y := .tmp 166) rfl (show σ 25 = _ from hS.val 25 _ rfl (hp 25 rfl)) (show σ 30 = _ from hS.val 30 _ rfl (hp 30 rfl)) (run_index_pt _ _ _ _ _ hz) (hS.stepV (i := 31) rfl)).toS
            · exact (gives_load (T := 32) (x := .tmp 167) rfl (show σ 31 = _ from hS.val 31 _ rfl (hp 31 rfl)) (run_load_pt _ _ _ _ _ ((hS.bel.cell (p := ⟨g, z * 2, none⟩) gW).trans d4) ((hS.bel.cell (p := ⟨g, z * 2 + 1, none⟩) gW).trans d5)) (hS.stepV (i := 32) rfl)).toS
            · refine (gives_alloc (T := 32) rfl (run_alloc_pt _) (hS.stepF (i := 33) rfl (fun q c hq => ?_))).toS
              have hq2 : q = 36 := HKD q 33 c hq (by omega)
              subst hq2
              cases hlq : Ls 36 with
              | false => rfl
              | true => have := hdn 36 33 hlq rfl; rw [hun] at this; cases this
            · refine (gives_alloc (T := 32) rfl (run_alloc_pt _) (hS.stepF (i := 34) rfl (fun q c hq => ?_))).toS
              have hq2 : q = 37 := HKD q 34 c hq (by omega)
              subst hq2
              cases hlq : Ls 37 with
              | false => rfl
              | true => have := hdn 37 34 hlq rfl; rw [hun] at this; cases this
            · refine (gives_alloc (T := 32) rfl (run_alloc_pt _) (hS.stepF (i := 35) rfl (fun q c hq => ?_))).toS
              have hq2 : q = 38 := HKD q 35 c hq (by omega)
              subst hq2
              cases hlq : Ls 38 with
              | false => rfl
              | true => have := hdn 38 35 hlq rfl; rw [hun] at this; cases this
            · obtain ⟨bb, cur, e1, e2, e3, e4, e5⟩ := hS.fre 33 _ _ rfl (hp 33 rfl)
              obtain ⟨wn, s1, s2, s3, s4⟩ := st_pt e3 e4
              exact gives_store (T := 32) (x := .tmp 16) (y := .tmp 146) rfl (show σ 33 = _ from e1) (show σ 10 = _ from hS.val 10 _ rfl (hp 10 rfl)) s1 (hS.stepP (i := 36) rfl rfl rfl (hp 33 rfl) e1 (fun q c hq => HKD q 33 c hq (by omega)) s2 s3 s4)
            · obtain ⟨bb, cur, e1, e2, e3, e4, e5⟩ := hS.fre 34 _ _ rfl (hp 34 rfl)
              obtain ⟨wn, s1, s2, s3, s4⟩ := st_pt e3 e4
              exact gives_store (T := 32) (x := .tmp 17) (y := .tmp 157) rfl (show σ 34 = _ from e1) (show σ 21 = _ from hS.val 21 _ rfl (hp 21 rfl)) s1 (hS.stepP (i := 37) rfl rfl rfl (hp 34 rfl) e1 (fun q c hq => HKD q 34 c hq (by omega)) s2 s3 s4)
            · obtain ⟨bb, cur, e1, e2, e3, e4, e5⟩ := hS.fre 35 _ _ rfl (hp 35 rfl)
              obtain ⟨wn, s1, s2, s3, s4⟩ := st_pt e3 e4
              exact gives_store (T := 32) (x := .tmp 18) (y := .tmp 168) rfl (show σ 35 = _ from e1) (show σ 32 = _ from hS.val 32 _ rfl (hp 32 rfl)) s1 (hS.stepP (i := 38) rfl rfl rfl (hp 35 rfl) e1 (fun q c hq => HKD q 35 c hq (by omega)) s2 s3 s4)
          · intro Ls σ wx hS hall
            obtain ⟨b33, c33, e33, g33, hh33, hz33, hu33⟩ := hS.fre 33 _ _ rfl (hall 33 (by omega))
            obtain rfl := hu33 36 _ rfl (hall 36 (by omega))
            obtain ⟨b34, c34, e34, g34, hh34, hz34, hu34⟩ := hS.fre 34 _ _ rfl (hall 34 (by omega))
            obtain rfl := hu34 37 _ rfl (hall 37 (by omega))
            obtain ⟨b35, c35, e35, g35, hh35, hz35, hu35⟩ := hS.fre 35 _ _ rfl (hall 35 (by omega))
            obtain rfl := hu35 38 _ rfl (hall 38 (by omega))
            refine ⟨?_⟩
            simp only [lay, Act.put, List.drop_succ_cons, List.drop_zero, List.setIfInBounds_toArray, List.set_cons_succ, List.set_cons_zero, e33, e34, e35]
            go_wp2_with fail
            go_meet
            exact ⟨b33, b34, b35, rfl, rfl, rfl, lt_some hh33, lt_some hh34, lt_some hh35, cell_of_heap hh33 0, cell_of_heap hh33 1, cell_of_heap hh34 0, cell_of_heap hh34 1, cell_of_heap hh35 0, cell_of_heap hh35 1, hS.bel⟩
        case rest =>
        as_aux_lemma =>
        obtain ⟨p, q, r, rfl, rfl, rfl, pl, ql, rl, p0, p1, q0, q1, r0, r1, hbx⟩ := hcut
        replace k4 := (hbx.cell (p := ⟨B, 0, none⟩) BWr).trans k4
        replace k5 := (hbx.cell (p := ⟨B, 1, none⟩) BWr).trans k5
        replace BWr := Nat.lt_of_lt_of_le BWr hbx.size
        replace x2 := (hbx.cell (p := ⟨X, 2, none⟩) XW).trans x2
        replace XW := Nat.lt_of_lt_of_le XW hbx.size
        replace m0 := (hbx.cell (p := ⟨gn, x, none⟩) gnW).trans m0
        replace m1 := (hbx.cell (p := ⟨gn, y, none⟩) gnW).trans m1
        replace m2 := (hbx.cell (p := ⟨gn, z, none⟩) gnW).trans m2
        replace gnW := Nat.lt_of_lt_of_le gnW hbx.size
        replace t0 := (hbx.cell (p := ⟨gt, kk * 3, none⟩) hgt).trans t0
        replace t1 := (hbx.cell (p := ⟨gt, kk * 3 + 1, none⟩) hgt).trans t1
        replace t2 := (hbx.cell (p := ⟨gt, kk * 3 + 2, none⟩) hgt).trans t2
        replace hgt := Nat.lt_of_lt_of_le hgt hbx.size
        replace hQr : wc.heap[Q]? = _ := (hbx.block Q hQlr).trans hQr
        replace hQlr := lt_some hQr
        replace hbr := hbr.trans (hbx.mono hbr.size)
        clear hbx d0 d1 d2 d3 d4 d5 x1 gW
        generalize wc = V2 at *
        go_wp2_with fail
        go_cut [19, 20, 21] (fun s19 s20 s21 wx => s19 = .int .i64 u ∧ s20 = .int .i64 v ∧ s21 = .int .i64 zz ∧ Below V2.heap.size V2 wx)
        case first =>
          as_aux_lemma =>
          refine wp_region_invG (m := 15) (by kernel_rfl) (by kernel_rfl) (by kernel_rfl) (dsts := [some 169, some 170, some 171, some 172, some 173, some 174, some 175, some 176, some 177, some 178, some 179, some 180, some 19, some 20, some 21]) rfl (by kernel_rfl) (l := []) rfl (ValG V2 (valsA16 ax ay bx by2 cx cy px py u v zz)) ⟨(fun _ h => by cases h), (Below.refl _ _).drew⟩ ?_ ?_
          · refine (flS (flS (flS (flS (flS (flS (flS (flS (flS (flS (flS (flS (flS (flS (flS fl0 ?_) ?_) ?_) ?_) ?_) ?_) ?_) ?_) ?_) ?_) ?_) ?_) ?_) ?_) ?_)
            all_goals intro Ls σ wx hS hp hdn hun
            · exact runs rfl (gives_load (T := 32) (x := .tmp 16) rfl rfl (run_load_pt _ _ _ _ _ ((hS.bel.cell (p := ⟨p, 0, none⟩) pl).trans p0) ((hS.bel.cell (p := ⟨p, 1, none⟩) pl).trans p1)) (hS.step (i := 0) hS.bel)).toS
            · exact runs rfl (gives_load (T := 32) (x := .tmp 17) rfl rfl (run_load_pt _ _ _ _ _ ((hS.bel.cell (p := ⟨q, 0, none⟩) ql).trans q0) ((hS.bel.cell (p := ⟨q, 1, none⟩) ql).trans q1)) (hS.step (i := 1) hS.bel)).toS
            · exact runs rfl (gives_load (T := 32) (x := .tmp 5) rfl rfl (run_load_pt _ _ _ _ _ ((hS.bel.cell (p := ⟨B, 0, none⟩) BWr).trans k4) ((hS.bel.cell (p := ⟨B, 1, none⟩) BWr).trans k5)) (hS.step (i := 2) hS.bel)).toS
            · have e0 : σ 0 = _ := hS.val 0 (hp 0 rfl)
              have e1 : σ 1 = _ := hS.val 1 (hp 1 rfl)
              have e2 : σ 2 = _ := hS.val 2 (hp 2 rfl)
              exact runs rfl (gives_call (f := 19) (args := [.agg #[.int .i64 ax, .int .i64 ay], .agg #[.int .i64 bx, .int .i64 by2], .agg #[.int .i64 px, .int .i64 py]]) rfl rfl (by show [σ 0, σ 1, σ 2] = _; rw [e0, e1, e2]; rfl) (by go_simp) ((S1 wx).mono fun e w' h => ⟨_, h.1, hS.step (i := 3) (hS.bel.trans (h.2.mono hS.bel.size))⟩)).toS
            · exact runs rfl (gives_load (T := 32) (x := .tmp 17) rfl rfl (run_load_pt _ _ _ _ _ ((hS.bel.cell (p := ⟨q, 0, none⟩) ql).trans q0) ((hS.bel.cell (p := ⟨q, 1, none⟩) ql).trans q1)) (hS.step (i := 4) hS.bel)).toS
            · exact runs rfl (gives_load (T := 32) (x := .tmp 18) rfl rfl (run_load_pt _ _ _ _ _ ((hS.bel.cell (p := ⟨r, 0, none⟩) rl).trans r0) ((hS.bel.cell (p := ⟨r, 1, none⟩) rl).trans r1)) (hS.step (i := 5) hS.bel)).toS
            · exact runs rfl (gives_load (T := 32) (x := .tmp 5) rfl rfl (run_load_pt _ _ _ _ _ ((hS.bel.cell (p := ⟨B, 0, none⟩) BWr).trans k4) ((hS.bel.cell (p := ⟨B, 1, none⟩) BWr).trans k5)) (hS.step (i := 6) hS.bel)).toS
            · have e4 : σ 4 = _ := hS.val 4 (hp 4 rfl)
              have e5 : σ 5 = _ := hS.val 5 (hp 5 rfl)
              have e6 : σ 6 = _ := hS.val 6 (hp 6 rfl)
              exact runs rfl (gives_call (f := 19) (args := [.agg #[.int .i64 bx, .int .i64 by2], .agg #[.int .i64 cx, .int .i64 cy], .agg #[.int .i64 px, .int .i64 py]]) rfl rfl (by show [σ 4, σ 5, σ 6] = _; rw [e4, e5, e6]; rfl) (by go_simp) ((S2 wx).mono fun e w' h => ⟨_, h.1, hS.step (i := 7) (hS.bel.trans (h.2.mono hS.bel.size))⟩)).toS
            · exact runs rfl (gives_load (T := 32) (x := .tmp 18) rfl rfl (run_load_pt _ _ _ _ _ ((hS.bel.cell (p := ⟨r, 0, none⟩) rl).trans r0) ((hS.bel.cell (p := ⟨r, 1, none⟩) rl).trans r1)) (hS.step (i := 8) hS.bel)).toS
            · exact runs rfl (gives_load (T := 32) (x := .tmp 16) rfl rfl (run_load_pt _ _ _ _ _ ((hS.bel.cell (p := ⟨p, 0, none⟩) pl).trans p0) ((hS.bel.cell (p := ⟨p, 1, none⟩) pl).trans p1)) (hS.step (i := 9) hS.bel)).toS
            · exact runs rfl (gives_load (T := 32) (x := .tmp 5) rfl rfl (run_load_pt _ _ _ _ _ ((hS.bel.cell (p := ⟨B, 0, none⟩) BWr).trans k4) ((hS.bel.cell (p := ⟨B, 1, none⟩) BWr).trans k5)) (hS.step (i := 10) hS.bel)).toS
            · have e8 : σ 8 = _ := hS.val 8 (hp 8 rfl)
              have e9 : σ 9 = _ := hS.val 9 (hp 9 rfl)
              have e10 : σ 10 = _ := hS.val 10 (hp 10 rfl)
              exact runs rfl (gives_call (f := 19) (args := [.agg #[.int .i64 cx, .int .i64 cy], .agg #[.int .i64 ax, .int .i64 ay], .agg #[.int .i64 px, .int .i64 py]]) rfl rfl (by show [σ 8, σ 9, σ 10] = _; rw [e8, e9, e10]; rfl) (by go_simp) ((S3 wx).mono fun e w' h => ⟨_, h.1, hS.step (i := 11) (hS.bel.trans (h.2.mono hS.bel.size))⟩)).toS
            · exact runs rfl (gives_asgF (x := .tmp 172) rfl (show σ 3 = _ from hS.val 3 (hp 3 rfl)) (hS.step (i := 12) hS.bel)).toS
            · exact runs rfl (gives_asgF (x := .tmp 176) rfl (show σ 7 = _ from hS.val 7 (hp 7 rfl)) (hS.step (i := 13) hS.bel)).toS
            · exact runs rfl (gives_asgF (x := .tmp 180) rfl (show σ 11 = _ from hS.val 11 (hp 11 rfl)) (hS.step (i := 14) hS.bel)).toS
          · intro Ls σ wx hS hall
            have e12 : σ 12 = .int .i64 u := hS.val 12 (hall 12 (by omega))
            have e13 : σ 13 = .int .i64 v := hS.val 13 (hall 13 (by omega))
            have e14 : σ 14 = .int .i64 zz := hS.val 14 (hall 14 (by omega))
            have hbx := hS.bel
            clear hS
            refine ⟨?_⟩
            simp only [lay, Act.put, List.drop_succ_cons, List.drop_zero, List.setIfInBounds_toArray, List.set_cons_succ, List.set_cons_zero, e12, e13, e14]
            go_wp2_with fail
            go_meet
            exact ⟨rfl, rfl, rfl, hbx⟩
        case rest =>
        as_aux_lemma =>
        obtain ⟨rfl, rfl, rfl, hbx⟩ := hcut
        replace x2 := (hbx.cell (p := ⟨X, 2, none⟩) XW).trans x2
        replace XW := Nat.lt_of_lt_of_le XW hbx.size
        replace m0 := (hbx.cell (p := ⟨gn, x, none⟩) gnW).trans m0
        replace m1 := (hbx.cell (p := ⟨gn, y, none⟩) gnW).trans m1
        replace m2 := (hbx.cell (p := ⟨gn, z, none⟩) gnW).trans m2
        replace gnW := Nat.lt_of_lt_of_le gnW hbx.size
        replace t0 := (hbx.cell (p := ⟨gt, kk * 3, none⟩) hgt).trans t0
        replace t1 := (hbx.cell (p := ⟨gt, kk * 3 + 1, none⟩) hgt).trans t1
        replace t2 := (hbx.cell (p := ⟨gt, kk * 3 + 2, none⟩) hgt).trans t2
        replace hgt := Nat.lt_of_lt_of_le hgt hbx.size
        replace hQr : wc.heap[Q]? = _ := (hbx.block Q hQlr).trans hQr
        replace hQlr := lt_some hQr
        replace hbr := hbr.trans (hbx.mono hbr.size)
        clear hbx p0 p1 q0 q1 r0 r1 pl ql rl S1 S2 S3 k4 k5 BWr
        generalize wc = V3 at *
        have EIN : Hid (inB pts (px, py) (ts.getD kk (0, 0, 0)) = (decide (0 < u) && decide (0 < v) && decide (0 < zz))) := by unfold Hid inB; rw [SU.out, SV.out, SZ.out]
        have ERM : Hid (rimB pts (px, py) (ts.getD kk (0, 0, 0)) = (!(decide (0 < u) && decide (0 < v) && decide (0 < zz)) && (decide (0 ≤ u) && decide (0 ≤ v) && decide (0 ≤ zz)))) := by unfold Hid rimB; rw [EIN.out, SU.out, SV.out, SZ.out]
        clear SU SV SZ
        generalize inB pts (px, py) (ts.getD kk (0, 0, 0)) = iB at *
        generalize rimB pts (px, py) (ts.getD kk (0, 0, 0)) = rB at *
        go_upto_region 17 with fail
        go_cut [190] (fun s190 wx => s190 = .bool iB ∧ wx = V3)
        case first =>
          as_aux_lemma =>
          by_cases hu : 0 < u
          · have fu : decide (0 < u) = true := decide_eq_true hu
            by_cases hv : 0 < v
            · have fv : decide (0 < v) = true := decide_eq_true hv
              by_cases hz0 : 0 < zz
              · have fz : decide (0 < zz) = true := decide_eq_true hz0
                go_wp2_with fail
                go_meet
                exact ⟨by rw [EIN.out, fu, fv, fz]; rfl, rfl⟩
              · have fz : decide (0 < zz) = false := decide_eq_false hz0
                go_wp2_with fail
                go_meet
                exact ⟨by rw [EIN.out, fu, fv, fz]; rfl, rfl⟩
            · have fv : decide (0 < v) = false := decide_eq_false hv
              go_wp2_with fail
              go_meet
              exact ⟨by rw [EIN.out, fu, fv]; rfl, rfl⟩
          · have fu : decide (0 < u) = false := decide_eq_false hu
            go_wp2_with fail
            go_meet
            exact ⟨by rw [EIN.out, fu]; rfl, rfl⟩
        case rest =>
        as_aux_lemma =>
        obtain ⟨rfl, rfl⟩ := hcut
        cases iB with
        | true =>
          obtain ⟨rfl, rfl, rfl, rfl⟩ := HIN.out rfl
          have w1 : IntKind.i64.wrap (((ts.take kk).countP (inB pts (px, py)) : Int) + 1) = ((ts.take kk).countP (inB pts (px, py)) : Int) + 1 := wrap_id (by omega) (by omega)
          have hrb : rB = false := by rw [ERM.out, ← EIN.out]; rfl
          clear HIN ERM EIN
          subst hrb
          rw [if_pos rfl] at HC1
          rw [if_neg (by simp)] at HC2
          generalize ns.getD x 0 = nx at *
          generalize ns.getD y 0 = ny at *
          generalize ns.getD z 0 = nz at *
          have z0 : wc.cell? ⟨Q, 0, none⟩ = some (.int .i64 1) := cell_of_heap hQr 0
          have z1 : wc.cell? ⟨Q, 1, none⟩ = some (.int .i64 nx) := cell_of_heap hQr 1
          have z2 : wc.cell? ⟨Q, 2, none⟩ = some (.int .i64 ny) := cell_of_heap hQr 2
          have z3 : wc.cell? ⟨Q, 3, none⟩ = some (.int .i64 nz) := cell_of_heap hQr 3
          have heq := eqPlaceF 1 nx ny nz
          have y2 : (0 : Int) ≤ (x : Int) := by omega
          have y3 : (x : Int) < (pts.length : Int) := by omega
          have y4 : (0 : Int) ≤ (y : Int) := by omega
          have y5 : (y : Int) < (pts.length : Int) := by omega
          have y7 : (0 : Int) ≤ (z : Int) := by omega
          have y8 : (z : Int) < (pts.length : Int) := by omega
          have y0 : (0 : Int) ≤ (kk : Int) := by omega
          generalize (ts.take kk).countP (inB pts (px, py)) = c1 at *
          generalize (ts.take kk).countP (rimB pts (px, py)) = c2 at *
          clear hQr
          go_wp2_with fail
          go_quiet (fail)
          go_wp2
          go_roundw
          case rel => exact ⟨kk + 1, by omega, by go_num, by rw [HC1.out]; go_num, by rw [HC2.out]; go_num, below_drewN hbr⟩
          case measure => simp [intOf]; omega
        | false =>
          clear HIN t0 t1 t2 m0 m1 m2 x2
          have hge : Hid (rB = (decide (0 ≤ u) && decide (0 ≤ v) && decide (0 ≤ zz))) := by unfold Hid; rw [ERM.out, ← EIN.out]; rfl
          clear ERM EIN
          rw [if_neg (by simp)] at HC1
          generalize (ts.take kk).countP (inB pts (px, py)) = c1 at *
          generalize (ts.take kk).countP (rimB pts (px, py)) = c2 at *
          go_upto_region 21 with fail
          go_cut [239] (fun s239 wx => s239 = .bool rB ∧ wx = wc)
          case first =>
            as_aux_lemma =>
            by_cases hu : 0 ≤ u
            · have fu : decide (0 ≤ u) = true := decide_eq_true hu
              by_cases hv : 0 ≤ v
              · have fv : decide (0 ≤ v) = true := decide_eq_true hv
                by_cases hz0 : 0 ≤ zz
                · have fz : decide (0 ≤ zz) = true := decide_eq_true hz0
                  go_wp2_with fail
                  go_meet
                  exact ⟨by rw [hge.out, fu, fv, fz]; rfl, rfl⟩
                · have fz : decide (0 ≤ zz) = false := decide_eq_false hz0
                  go_wp2_with fail
                  go_meet
                  exact ⟨by rw [hge.out, fu, fv, fz]; rfl, rfl⟩
              · have fv : decide (0 ≤ v) = false := decide_eq_false hv
                go_wp2_with fail
                go_meet
                exact ⟨by rw [hge.out, fu, fv]; rfl, rfl⟩
            · have fu : decide (0 ≤ u) = false := decide_eq_false hu
              go_wp2_with fail
              go_meet
              exact ⟨by rw [hge.out, fu]; rfl, rfl⟩
          case rest =>
            as_aux_lemma =>
            obtain ⟨rfl, rfl⟩ := hcut
            have w2 : IntKind.i64.wrap ((c2 : Int) + 1) = (c2 : Int) + 1 := wrap_id (by omega) (by omega)
            cases rB with
            | true =>
              rw [if_pos rfl] at HC2
              go_wp2
              go_roundw
              case rel => exact ⟨kk + 1, by omega, by go_num, by rw [HC1.out]; rfl, by rw [HC2.out]; go_num, hbr⟩
              case measure => simp [intOf]; omega
            | false =>
              rw [if_neg (by simp)] at HC2
              go_wp2
              go_roundw
              case rel => exact ⟨kk + 1, by omega, by go_num, by rw [HC1.out]; rfl, by rw [HC2.out]; rfl, hbr⟩
              case measure => simp [intOf]; omega
      · have hkl : ¬ (kk : Int) < (ts.length : Int) := by omega
        have ek : ts.take kk = ts := List.take_of_length_le (by omega)
        rw [ek]
        clear ek
        go_wp2
        go_meet
        exact ⟨rfl, rfl, hbr⟩
  case rest =>
  as_aux_lemma =>
  obtain ⟨rfl, rfl, hcut⟩ := hcut
  have hb4 : Below B w wc := hb3.trans (hcut.mono (by have := hb3.size; have := HB.out; omega))
  have MU := MV.below hcut
  replace k4 := (hcut.cell (p := ⟨B, 0, none⟩) BW).trans k4
  replace k5 := (hcut.cell (p := ⟨B, 1, none⟩) BW).trans k5
  replace BW := Nat.lt_of_lt_of_le BW hcut.size
  replace hQ : wc.heap[Q]? = _ := (hcut.block Q hQl).trans hQ
  replace hQl := lt_some hQ
  clear MV hb3 hcut
  generalize wc = V at *
  go_upto_block 4 with fail
  go_cut [22, 23, 24, 25, 26, 27] (fun s22 s23 _ _ _ _ wx => s22 = .bool (hereB pts (px, py) pts.length) ∧ s23 = .bool (btwB pts (px, py) pts.length) ∧ Below V.heap.size V wx)
  case first =>
    as_aux_lemma =>
    clear hQ hQl
    go_wp2_with fail
    go_loopw [22, 23, 24, 25, 26, 27] (fun s22 s23 s24 _ _ _ wr => ∃ kk : Nat, kk ≤ pts.length ∧ s24 = .int .i64 kk ∧ s22 = .bool (hereB pts (px, py) kk) ∧ s23 = .bool (btwB pts (px, py) kk) ∧ Below V.heap.size V wr) (fun _ _ s24 _ _ _ _ => pts.length - (intOf s24).toNat)
    case atStart => exact ⟨0, Nat.zero_le _, rfl, rfl, rfl, Below.refl _ _⟩
    case round =>
      obtain ⟨kk, hkk, rfl, rfl, rfl, hbr⟩ := hrel
      have MR := MU.below hbr
      have x1 := MR.c1
      have XW := MR.hX
      by_cases hlt : kk < pts.length
      · have hkl : (kk : Int) < (pts.length : Int) := by omega
        have yk0 : (0 : Int) ≤ (kk : Int) := by omega
        have yk : IntKind.i64.wrap ((kk : Int) + 1) = (kk : Int) + 1 := wrap_id (by omega) (by omega)
        obtain ⟨d0, d1⟩ := MR.hp kk hlt
        rw [Nat.zero_add] at d0 d1
        have gW := MR.hg
        have nK : Hid (Near (pts.getD kk (0, 0)).1 (pts.getD kk (0, 0)).2) := HNR.out kk hlt
        have eK : Hid (ptAt pts kk = ((pts.getD kk (0, 0)).1, (pts.getD kk (0, 0)).2)) := rfl
        have z0 := (hbr.cell (p := ⟨B, 0, none⟩) BW).trans k4
        have z1 := (hbr.cell (p := ⟨B, 1, none⟩) BW).trans k5
        have BWr := Nat.lt_of_lt_of_le BW hbr.size
        have HS : Hid (hereB pts (px, py) (kk + 1) = (hereB pts (px, py) kk || decide (((pts.getD kk (0, 0)).1, (pts.getD kk (0, 0)).2) = (px, py)))) := rfl
        generalize (pts.getD kk (0, 0)).1 = qx at *
        generalize (pts.getD kk (0, 0)).2 = qy at *
        have HR : Hid (AMem wr X m g pc gn nc ta pts ns ts) := MR
        clear MR
        go_upto_region 28 with fail
        go_cut [22] (fun s22 wx => s22 = .bool (hereB pts (px, py) (kk + 1)) ∧ ∃ q, wx = wr.drewN q)
        case first =>
          as_aux_lemma =>
          clear HR
          generalize hereB pts (px, py) kk = jj at *
          cases jj with
          | true =>
            have HH : Hid (hereB pts (px, py) (kk + 1) = true) := by unfold Hid; rw [HS.out]; rfl
            clear HS
            go_quiet (fail)
            go_wp2_with fail
            go_meet
            exact ⟨by rw [HH.out], _, rfl⟩
          | false =>
            by_cases e1 : qx = px
            · by_cases e2 : qy = py
              · subst e1 e2
                have HH : Hid (hereB pts (qx, qy) (kk + 1) = true) := by unfold Hid; rw [HS.out]; simp
                clear HS
                go_quiet (fail)
                go_wp2_with fail
                go_meet
                exact ⟨by rw [HH.out], _, rfl⟩
              · have HH : Hid (hereB pts (px, py) (kk + 1) = false) := by unfold Hid; rw [HS.out]; simp [e2]
                clear HS
                have b1 : (qx == px) = true := by simpa using e1
                have b2 : (qy == py) = false := by simpa using e2
                go_quiet (fail)
                go_wp2_with fail
                go_meet
                exact ⟨by rw [HH.out], _, rfl⟩
            · have HH : Hid (hereB pts (px, py) (kk + 1) = false) := by unfold Hid; rw [HS.out]; simp [e1]
              clear HS
              have b1 : (qx == px) = false := by simpa using e1
              go_quiet (fail)
              go_wp2_with fail
              go_meet
              exact ⟨by rw [HH.out], _, rfl⟩
        case rest =>
        as_aux_lemma =>
        obtain ⟨rfl, q0, rfl⟩ := hcut
        have hbr : Below V.heap.size V (wr.drewN q0) := below_drewN hbr
        have hbz : Below wr.heap.size wr (wr.drewN q0) := below_drewN (Below.refl _ _)
        have MR := HR.out.below hbz
        clear d0 d1 z0 z1 x1 HS HR hbz XW gW BWr
        generalize wr.drewN q0 = W1 at *
        go_upto_block 6 with fail
        go_wp2_with fail
        go_loopw [23, 25, 26, 27] (fun s23 s25 _ _ wx => ∃ jj : Nat, jj ≤ kk ∧ s25 = .int .i64 jj ∧ s23 = .bool (btwB pts (px, py) kk || rowB' pts (px, py) kk jj) ∧ Below W1.heap.size W1 wx) (fun _ s25 _ _ _ => kk - (intOf s25).toNat)
        case atStart => exact ⟨0, Nat.zero_le _, rfl, by simp [rowB'], Below.refl _ _⟩
        case round =>
          obtain ⟨jj, hjj, rfl, rfl, hbx⟩ := hrel
          by_cases hjl : jj < kk
          · have MX := MR.below hbx
            have hjp : jj < pts.length := by omega
            have hj1 : (jj : Int) < (kk : Int) := by omega
            have yj : IntKind.i64.wrap ((jj : Int) + 1) = (jj : Int) + 1 := wrap_id (by omega) (by omega)
            obtain ⟨d0, d1⟩ := MX.hp jj hjp
            obtain ⟨d2, d3⟩ := MX.hp kk hlt
            rw [Nat.zero_add] at d0 d1 d2 d3
            have nJ : Near (pts.getD jj (0, 0)).1 (pts.getD jj (0, 0)).2 := HNR.out jj hjp
            have nK' : Near (pts.getD kk (0, 0)).1 (pts.getD kk (0, 0)).2 := HNR.out kk hlt
            have HSG : Hid (rowB' pts (px, py) kk (jj + 1) = (rowB' pts (px, py) kk jj || (decide (sideN (pts.getD jj (0, 0)).1 (pts.getD jj (0, 0)).2 (pts.getD kk (0, 0)).1 (pts.getD kk (0, 0)).2 px py = 0) && decide ((px - (pts.getD jj (0, 0)).1) * (px - (pts.getD kk (0, 0)).1) + (py - (pts.getD jj (0, 0)).2) * (py - (pts.getD kk (0, 0)).2) < 0)))) := rfl
            have x1 := MX.c1
            have XW := MX.hX
            have gW := MX.hg
            have hbB := hbr.trans (hbx.mono hbr.size)
            have z0 := (hbB.cell (p := ⟨B, 0, none⟩) BW).trans k4
            have z1 := (hbB.cell (p := ⟨B, 1, none⟩) BW).trans k5
            have BWr := Nat.lt_of_lt_of_le BW hbB.size
            generalize (pts.getD jj (0, 0)).1 = ax at *
            generalize (pts.getD jj (0, 0)).2 = ay at *
            generalize (pts.getD kk (0, 0)).1 = bx at *
            generalize (pts.getD kk (0, 0)).2 = by2 at *
            have SC := fun W => kside_any _ _ _ _ _ _ W nJ nK' hpn
            clear MX hbB
            go_wp2_with fail
            go_cut [26, 27] (fun s26 s27 wz => ∃ p q, s26 = .pointer (some ⟨p, 0, none⟩) ∧ s27 = .pointer (some ⟨q, 0, none⟩) ∧ p < wz.heap.size ∧ q < wz.heap.size ∧
              wz.cell? ⟨p, 0, none⟩ = some (.int .i64 ax) ∧ wz.cell? ⟨p, 1, none⟩ = some (.int .i64 ay) ∧ wz.cell? ⟨q, 0, none⟩ = some (.int .i64 bx) ∧ wz.cell? ⟨q, 1, none⟩ = some (.int .i64 by2) ∧ Below wr.heap.size wr wz)
            case first =>
              as_aux_lemma =>
              have HKD := kdA32_put X g pts.length pc jj kk ax ay bx by2
              refine wp_region_inv (m := 18) (by kernel_rfl) (by kernel_rfl) (dsts := [some 268, some 269, some 270, some 271, some 272, some 273, some 274, some 275, some 276, some 277, some 278, some 279, some 280, some 281, some 26, some 27, none, none]) rfl (by kernel_rfl) (l := []) rfl (SowX wr (kdA32 X g pts.length pc jj kk ax ay bx by2)) (SowX.start _ _ _) ?_ ?_
              · refine (flS (flS (flS (flS (flS (flS (flS (flS (flS (flS (flS (flS (flS (flS (flS (flS (flS (flS fl0 ?_) ?_) ?_) ?_) ?_) ?_) ?_) ?_) ?_) ?_) ?_) ?_) ?_) ?_) ?_) ?_) ?_) ?_)
                all_goals intro Ls σ wz hS hp hdn hun
                · exact (gives_move (x := .tmp 0) rfl rfl (hS.stepV (i := 0) rfl)).toS
                · exact (gives_nil (x := .tmp 268) rfl (show σ 0 = _ from hS.val 0 _ rfl (hp 0 rfl)) (hS.stepV (i := 1) rfl)).toS
                · exact (gives_field (T := 28) (x := .tmp 269) rfl (show σ 1 = _ from hS.val 1 _ rfl (hp 1 rfl)) (run_fieldN1 _ _) (hS.stepV (i := 2) rfl)).toS
                · exact (gives_load (T := 22) (x := .tmp 270) rfl (show σ 2 = _ from hS.val 2 _ rfl (hp 2 rfl)) (run_load_pts _ _ _ _ ((hS.bel.cell (p := ⟨X, 1, none⟩) XW).trans x1)) (hS.stepV (i := 3) rfl)).toS
                · exact (gives_move (x := .tmp 25) rfl rfl (hS.stepV (i := 4) rfl)).toS
                · exact (gives_index (T := 22) (x := .tmp 271) (y := .tmp 272) rfl (show σ 3 = _ from hS.val 3 _ rfl (hp 3 rfl)) (show σ 4 = _ from hS.val 4 _ rfl (hp 4 rfl)) (run_index_pt _ _ _ _ _ hjp) (hS.stepV (i := 5) rfl)).toS
                · exact (gives_load (T := 32) (x := .tmp 273) rfl (show σ 5 = _ from hS.val 5 _ rfl (hp 5 rfl)) (run_load_pt _ _ _ _ _ ((hS.bel.cell (p := ⟨g, jj * 2, none⟩) gW).trans d0) ((hS.bel.cell (p := ⟨g, jj * 2 + 1, none⟩) gW).trans d1)) (hS.stepV (i := 6) rfl)).toS
                · exact (gives_move (x := .tmp 0) rfl rfl (hS.stepV (i := 7) rfl)).toS
                · exact (gives_nil (x := .tmp 275) rfl (show σ 7 = _ from hS.val 7 _ rfl (hp 7 rfl)) (hS.stepV (i := 8) rfl)).toS
                · exact (gives_field (T := 28) (x := .tmp 276) rfl (show σ 8 = _ from hS.val 8 _ rfl (hp 8 rfl)) (run_fieldN1 _ _) (hS.stepV (i := 9) rfl)).toS
                · exact (gives_load (T := 22) (x := .tmp 277) rfl (show σ 9 = _ from hS.val 9 _ rfl (hp 9 rfl)) (run_load_pts _ _ _ _ ((hS.bel.cell (p := ⟨X, 1, none⟩) XW).trans x1)) (hS.stepV (i := 10) rfl)).toS
                · exact (gives_move (x := .tmp 24) rfl rfl (hS.stepV (i := 11) rfl)).toS
                · exact (gives_index (T := 22) (x := .tmp 278) (y := .tmp 279) rfl (show σ 10 = _ from hS.val 10 _ rfl (hp 10 rfl)) (show σ 11 = _ from hS.val 11 _ rfl (hp 11 rfl)) (run_index_pt _ _ _ _ _ hlt) (hS.stepV (i := 12) rfl)).toS
                · exact (gives_load (T := 32) (x := .tmp 280) rfl (show σ 12 = _ from hS.val 12 _ rfl (hp 12 rfl)) (run_load_pt _ _ _ _ _ ((hS.bel.cell (p := ⟨g, kk * 2, none⟩) gW).trans d2) ((hS.bel.cell (p := ⟨g, kk * 2 + 1, none⟩) gW).trans d3)) (hS.stepV (i := 13) rfl)).toS
                · refine (gives_alloc (T := 32) rfl (run_alloc_pt _) (hS.stepF (i := 14) rfl (fun q c hq => ?_))).toS
                  have hq2 : q = 16 := HKD q 14 c hq (by omega)
                  subst hq2
                  cases hlq : Ls 16 with
                  | false => rfl
                  | true => have := hdn 16 14 hlq rfl; rw [hun] at this; cases this
                · refine (gives_alloc (T := 32) rfl (run_alloc_pt _) (hS.stepF (i := 15) rfl (fun q c hq => ?_))).toS
                  have hq2 : q = 17 := HKD q 15 c hq (by omega)
                  subst hq2
                  cases hlq : Ls 17 with
                  | false => rfl
                  | true => have := hdn 17 15 hlq rfl; rw [hun] at this; cases this
                · obtain ⟨bb, cur, e1, e2, e3, e4, e5⟩ := hS.fre 14 _ _ rfl (hp 14 rfl)
                  obtain ⟨wn, s1, s2, s3, s4⟩ := st_pt e3 e4
                  exact gives_store (T := 32) (x := .tmp 26) (y := .tmp 274) rfl (show σ 14 = _ from e1) (show σ 6 = _ from hS.val 6 _ rfl (hp 6 rfl)) s1 (hS.stepP (i := 16) rfl rfl rfl (hp 14 rfl) e1 (fun q c hq => HKD q 14 c hq (by omega)) s2 s3 s4)
                · obtain ⟨bb, cur, e1, e2, e3, e4, e5⟩ := hS.fre 15 _ _ rfl (hp 15 rfl)
                  obtain ⟨wn, s1, s2, s3, s4⟩ := st_pt e3 e4
                  exact gives_store (T := 32) (x := .tmp 27) (y := .tmp 281) rfl (show σ 15 = _ from e1) (show σ 13 = _ from hS.val 13 _ rfl (hp 13 rfl)) s1 (hS.stepP (i := 17) rfl rfl rfl (hp 15 rfl) e1 (fun q c hq => HKD q 15 c hq (by omega)) s2 s3 s4)
              · intro Ls σ wz hS hall
                obtain ⟨b14, c14, e14, g14, hh14, hz14, hu14⟩ := hS.fre 14 _ _ rfl (hall 14 (by omega))
                obtain rfl := hu14 16 _ rfl (hall 16 (by omega))
                obtain ⟨b15, c15, e15, g15, hh15, hz15, hu15⟩ := hS.fre 15 _ _ rfl (hall 15 (by omega))
                obtain rfl := hu15 17 _ rfl (hall 17 (by omega))
                refine ⟨?_⟩
                simp only [lay, Act.put, List.drop_succ_cons, List.drop_zero, List.setIfInBounds_toArray, List.set_cons_succ, List.set_cons_zero, e14, e15]
                go_wp2_with fail
                go_meet
                exact ⟨b14, b15, rfl, rfl, lt_some hh14, lt_some hh15, cell_of_heap hh14 0, cell_of_heap hh14 1, cell_of_heap hh15 0, cell_of_heap hh15 1, hS.bel⟩
            case rest =>
            as_aux_lemma =>
            obtain ⟨p, q, rfl, rfl, pl, ql, p0, p1, q1, q2, hbz⟩ := hcut
            replace z0 := (hbz.cell (p := ⟨B, 0, none⟩) BWr).trans z0
            replace z1 := (hbz.cell (p := ⟨B, 1, none⟩) BWr).trans z1
            replace BWr := Nat.lt_of_lt_of_le BWr hbz.size
            have hb5 := hbx.trans (hbz.mono hbx.size)
            clear x1 d0 d1 d2 d3 gW XW hbz hbx
            generalize wc = W2 at *
            obtain ⟨a1, a2, a3, a4⟩ := nJ
            obtain ⟨b1, b2, b3, b4⟩ := nK'
            have hpn' := hpn
            obtain ⟨c1, c2, c3, c4⟩ := hpn'
            have m1 := @mul_bd (px - ax) (px - bx) 16000 16000 (by omega) (by omega) (by omega) (by omega)
            have m2 := @mul_bd (py - ay) (py - by2) 16000 16000 (by omega) (by omega) (by omega) (by omega)
            have HR1 : Hid ((btwB pts (px, py) kk || rowB' pts (px, py) kk (jj + 1)) = ((btwB pts (px, py) kk || rowB' pts (px, py) kk jj) || (decide (sideN ax ay bx by2 px py = 0) && decide ((px - ax) * (px - bx) + (py - ay) * (py - by2) < 0)))) := by unfold Hid; rw [HSG.out, Bool.or_assoc]
            clear HSG
            generalize (btwB pts (px, py) kk || rowB' pts (px, py) kk jj) = old at *
            generalize sideN ax ay bx by2 px py = s at *
            cases old with
            | true =>
              go_wp2
              go_roundw
              case rel => exact ⟨jj + 1, by omega, by go_num, by rw [HR1.out]; rfl, hb5⟩
              case measure => simp [intOf]; omega
            | false =>
              by_cases hs0 : s = 0
              · subst hs0
                by_cases hd : (px - ax) * (px - bx) + (py - ay) * (py - by2) < 0
                · have fd : decide ((px - ax) * (px - bx) + (py - ay) * (py - by2) < 0) = true := decide_eq_true hd
                  have HR2 : Hid ((btwB pts (px, py) kk || rowB' pts (px, py) kk (jj + 1)) = true) := by unfold Hid; rw [HR1.out, fd]; rfl
                  clear HR1
                  go_wp2_with (go_at_call 19; refine (SC _).mono ?_; rintro e w' ⟨rfl, hb6⟩
                               have z0 := (hb6.cell (p := ⟨B, 0, none⟩) BWr).trans z0
                               have z1 := (hb6.cell (p := ⟨B, 1, none⟩) BWr).trans z1
                               have p0 := (hb6.cell (p := ⟨p, 0, none⟩) pl).trans p0
                               have p1 := (hb6.cell (p := ⟨p, 1, none⟩) pl).trans p1
                               have q1 := (hb6.cell (p := ⟨q, 0, none⟩) ql).trans q1
                               have q2 := (hb6.cell (p := ⟨q, 1, none⟩) ql).trans q2)
                  go_roundw
                  case rel => exact ⟨jj + 1, by omega, by go_num, by rw [HR2.out], hb5.trans (hb6.mono hb5.size)⟩
                  case measure => simp [intOf]; omega
                · have fd : decide ((px - ax) * (px - bx) + (py - ay) * (py - by2) < 0) = false := decide_eq_false hd
                  have HR2 : Hid ((btwB pts (px, py) kk || rowB' pts (px, py) kk (jj + 1)) = false) := by unfold Hid; rw [HR1.out, fd]; rfl
                  clear HR1
                  go_wp2_with (go_at_call 19; refine (SC _).mono ?_; rintro e w' ⟨rfl, hb6⟩
                               have z0 := (hb6.cell (p := ⟨B, 0, none⟩) BWr).trans z0
                               have z1 := (hb6.cell (p := ⟨B, 1, none⟩) BWr).trans z1
                               have p0 := (hb6.cell (p := ⟨p, 0, none⟩) pl).trans p0
                               have p1 := (hb6.cell (p := ⟨p, 1, none⟩) pl).trans p1
                               have q1 := (hb6.cell (p := ⟨q, 0, none⟩) ql).trans q1
                               have q2 := (hb6.cell (p := ⟨q, 1, none⟩) ql).trans q2)
                  go_roundw
                  case rel => exact ⟨jj + 1, by omega, by go_num, by rw [HR2.out], hb5.trans (hb6.mono hb5.size)⟩
                  case measure => simp [intOf]; omega
              · have fs : (s == 0) = false := by simpa using hs0
                have HR2 : Hid ((btwB pts (px, py) kk || rowB' pts (px, py) kk (jj + 1)) = false) := by unfold Hid; rw [HR1.out]; simp [hs0]
                clear HR1
                go_wp2_with (go_at_call 19; refine (SC _).mono ?_; rintro e w' ⟨rfl, hb6⟩)
                go_roundw
                case rel => exact ⟨jj + 1, by omega, by go_num, by rw [HR2.out], hb5.trans (hb6.mono hb5.size)⟩
                case measure => simp [intOf]; omega
          · have hj1 : ¬ (jj : Int) < (kk : Int) := by omega
            have ej : jj = kk := by omega
            have hh : Hid (btwB pts (px, py) (kk + 1) = (btwB pts (px, py) kk || rowB' pts (px, py) kk jj)) := by rw [ej]; rfl
            clear ej
            go_wp2
            go_roundw
            case rel => exact ⟨kk + 1, by omega, by go_num, rfl, by rw [hh.out], hbr.trans (hbx.mono hbr.size)⟩
            case measure => simp [intOf]; omega
      · have hkl : ¬ (kk : Int) < (pts.length : Int) := by omega
        have ek : kk = pts.length := by omega
        rw [ek]
        rw [ek] at hkl
        clear ek
        go_wp2
        go_meet
        exact ⟨rfl, rfl, hbr⟩
  case rest =>
  as_aux_lemma =>
  obtain ⟨rfl, rfl, hcut⟩ := hcut
  have hb5 : Below B w wc := hb4.trans (hcut.mono (by have := hb4.size; have := HB.out; omega))
  replace k4 := (hcut.cell (p := ⟨B, 0, none⟩) BW).trans k4
  replace k5 := (hcut.cell (p := ⟨B, 1, none⟩) BW).trans k5
  replace BW := Nat.lt_of_lt_of_le BW hcut.size
  replace hQ : wc.heap[Q]? = _ := (hcut.block Q hQl).trans hQ
  clear MU hb4 hcut hQl
  generalize wc = V at *
  have HE1 := Lib.hid HF.out.here
  have HE2 := Lib.hid HF.out.cnt
  have HE3 := Lib.hid HF.out.on
  have HE4 := Lib.hid HF.out.line
  have HE5 := Lib.hid HF.out.els
  clear HF HTR HNR HAT
  have j0 : V.cell? ⟨Q, 0, none⟩ = some (.int .i64 k) := cell_of_heap hQ 0
  have j1 : V.cell? ⟨Q, 1, none⟩ = some (.int .i64 a) := cell_of_heap hQ 1
  have j2 : V.cell? ⟨Q, 2, none⟩ = some (.int .i64 b) := cell_of_heap hQ 2
  have j3 : V.cell? ⟨Q, 3, none⟩ = some (.int .i64 c) := cell_of_heap hQ 3
  clear hQ
  cases hH : hereB pts (px, py) pts.length with
  | true =>
    have ek := HE1.out hH
    clear HE1 HE2 HE3 HE4 HE5 HED hH
    subst ek
    go_wp2
    go_ret
    exact ⟨rfl, by rw [HB.out]; exact hb5⟩
  | false =>
    have hcn := HE2.out
    have EH : Hid (hereB pts (px, py) pts.length = false) := hH
    have E3 := Lib.hid (HE3.out hH)
    have E4 := Lib.hid (HE4.out hH)
    have E5 := Lib.hid (HE5.out hH)
    clear HE1 HE2 HE3 HE4 HE5 hH EH
    generalize ts.countP (inB pts (px, py)) = n1 at *
    generalize ts.countP (rimB pts (px, py)) = n2 at *
    by_cases h1 : n1 = 0
    · subst h1
      by_cases h2 : n2 = 0
      · subst h2
        by_cases h3 : ts = []
        · subst h3
          cases hb : btwB pts (px, py) pts.length with
          | true =>
            obtain ⟨ek, hE⟩ := E4.out rfl hb
            have EDV := HED.out hE V hb5
            clear E3 E4 E5 HED hb hE
            subst ek
            go_wp2_with (go_at_call 20; refine EDV.mono ?_; rintro e w' ⟨rfl, hb6⟩)
            go_ret
            exact ⟨rfl, by rw [HB.out]; exact hb5.trans (hb6.mono (by have := hb5.size; have := HB.out; omega))⟩
          | false =>
            obtain ⟨rfl, rfl, rfl, rfl⟩ := E5.out rfl rfl fun _ => hb
            clear E3 E4 E5 HED hb
            have heq := eqPlaceF 0 (-1) (-1) (-1)
            go_wp2
            go_ret
            exact ⟨rfl, by rw [HB.out]; exact hb5⟩
        · obtain ⟨rfl, rfl, rfl, rfl⟩ := E5.out rfl rfl fun e => absurd e h3
          have hlt : ((ts.length : Int) == 0) = false := beq_eq_false_iff_ne.2 (by have := List.length_pos_iff.2 h3; omega)
          clear E3 E4 E5 HED h3
          have heq := eqPlaceF 0 (-1) (-1) (-1)
          go_wp2
          go_ret
          exact ⟨rfl, by rw [HB.out]; exact hb5⟩
      · obtain ⟨ek, hE⟩ := E3.out h2
        have EDV := HED.out hE V hb5
        have g2 : decide ((0 : Int) < (n2 : Int)) = true := decide_eq_true (by omega)
        clear E3 E4 E5 HED hE
        subst ek
        go_wp2_with (go_at_call 20; refine EDV.mono ?_; rintro e w' ⟨rfl, hb6⟩)
        go_ret
        exact ⟨rfl, by rw [HB.out]; exact hb5.trans (hb6.mono (by have := hb5.size; have := HB.out; omega))⟩
    · have h1' : n1 = 1 := by omega
      subst h1'
      clear E3 E4 E5 HED
      go_wp2
      go_ret
      exact ⟨rfl, by rw [HB.out]; exact hb5⟩
end Go.Proofs.YtgpapegpdfonpaaGreat

