/-
  Triangles as cells; along an edge; alike.
-/
import Derived.Test.YtgpapegpdfonpaaGreatMathJ
import Derived.Test.YtgpapegpdfonpaaGreatWalksJK
import Derived.BigQuiet
import Derived.BigRegion
namespace Go.Proofs.YtgpapegpdfonpaaGreat
set_option linter.unusedVariables false
set_option linter.unusedSimpArgs false
open Go.RowKit

def TrisAt (w : World) (g : Nat) (ts : List T3) : Prop := ∀ j, j < ts.length → w.cell? ⟨g, j * 3, none⟩ = some (iv (ts.getD j (0, 0, 0)).1) ∧ w.cell? ⟨g, j * 3 + 1, none⟩ = some (iv (ts.getD j (0, 0, 0)).2.1) ∧ w.cell? ⟨g, j * 3 + 2, none⟩ = some (iv (ts.getD j (0, 0, 0)).2.2)
theorem TrisAt.below {w w' : World} {g : Nat} {ts : List T3} (h : TrisAt w g ts) (hb : Below w.heap.size w w') (hg : g < w.heap.size) : TrisAt w' g ts := fun j hj =>
  ⟨(hb.cell (p := ⟨g, _, none⟩) hg).trans (h j hj).1, (hb.cell (p := ⟨g, _, none⟩) hg).trans (h j hj).2.1, (hb.cell (p := ⟨g, _, none⟩) hg).trans (h j hj).2.2⟩
theorem tris_of {w : World} {base g n cap : Nat} {ts : List T3} (h : w.ownsRow base 53 3 (.slice (some ⟨g, 0, none⟩) n cap) ts.length (flatT ts)) : TrisAt w g ts ∧ g < w.heap.size ∧ base ≤ g := by
  obtain ⟨hl, hn⟩ := h
  rcases hn with ⟨hn, _⟩ | ⟨g', cap', cur, hv, hg, hh, h1, h2, h3, h4⟩
  · cases hn
  · cases hv
    have key : ∀ i u, (flatT ts)[i]? = some u → w.cell? ⟨g, i, none⟩ = some u := by
      intro i u e
      rw [← h4, List.getElem?_take] at e
      split at e
      · have e' : cur[i]? = some u := by simpa using e
        simp [World.cell?, hh, e']
      · cases e
    refine ⟨fun j hj => ?_, (Array.getElem?_eq_some_iff.1 hh).1, hg⟩
    have f0 := flatT_get ts j 0 (by omega) hj
    have f1 := flatT_get ts j 1 (by omega) hj
    have f2 := flatT_get ts j 2 (by omega) hj
    have eg : ts.getD j (0, 0, 0) = ts[j] := by simp [hj]
    rw [eg]
    exact ⟨key _ _ f0, key _ _ f1, key _ _ f2⟩

theorem along_no {s t : T3} (h : alongB s t = false) {i k : Nat} (hi : i < 3) (hk : k < 3) : ¬ (nth3 s i = nth3 t k ∧ nth3 s ((i + 1) % 3) = nth3 t ((k + 1) % 3)) := by
  intro e
  have : alongB s t = true := by
    unfold alongB
    rw [List.any_eq_true]
    refine ⟨i, List.mem_range.2 hi, ?_⟩
    rw [List.any_eq_true]
    refine ⟨k, List.mem_range.2 hk, ?_⟩
    rw [Bool.and_eq_true, beq_iff_eq, beq_iff_eq]
    exact e
  rw [this] at h; cases h

def CellsT (w : World) (b : Nat) (t : T3) : Prop := ∀ i, i < 3 → w.cell? ⟨b, i, none⟩ = some (iv (nth3 t i))
theorem cells3 {w : World} {b : Nat} {t : T3} (h0 : w.cell? ⟨b, 0, none⟩ = some (iv t.1)) (h1 : w.cell? ⟨b, 1, none⟩ = some (iv t.2.1)) (h2 : w.cell? ⟨b, 2, none⟩ = some (iv t.2.2)) : CellsT w b t := by
  intro i hi
  match i, hi with
  | 0, _ => exact h0
  | 1, _ => exact h1
  | 2, _ => exact h2

set_option maxRecDepth 100000 in
set_option maxHeartbeats 2000000 in
theorem along_any (s t : T3) (w : World) (h : alongB s t = false) :
    Calls Tryz.prog 30 #[.agg #[iv s.1, iv s.2.1, iv s.2.2], .agg #[iv t.1, iv t.2.1, iv t.2.2]] w fun e w' => e = .returned (.bool false) ∧ Below w.heap.size w w' := by
  have HNO : Hid (∀ i k, i < 3 → k < 3 → ¬ (nth3 s i = nth3 t k ∧ nth3 s ((i + 1) % 3) = nth3 t ((k + 1) % 3))) := fun i k hi hk => along_no h hi hk
  go_enter Tryz.func30, Tryz.ntmps30
  go_wp2_with fail
  generalize hW : (w.alloc (.cells #[.int .i64 s.1, .int .i64 s.2.1, .int .i64 s.2.2] 53)).alloc (.cells #[.int .i64 t.1, .int .i64 t.2.1, .int .i64 t.2.2] 53) = W
  have hb0 : Below w.heap.size w W := by rw [← hW]; exact below2 _ _ _
  have C1 : CellsT W w.heap.size s := by
    rw [← hW]
    apply cells3 <;> (rw [World.cell?_alloc_past _ _ _ (by simp), World.cell?_alloc_at _ _ _ _ (by simp)]; rfl)
  have C2 : CellsT W (w.heap.size + 1) t := by
    rw [← hW]
    apply cells3 <;> (rw [World.cell?_alloc_at _ _ _ _ (by simp)]; rfl)
  clear hW h
  generalize w.heap.size + 1 = B2 at *
  have hbW : ∀ N, Below w.heap.size w (W.drewN N) := fun N => below_drewN hb0
  generalize hB1 : w.heap.size = B1 at *
  go_loopw [5] (fun i wr => ∃ k : Nat, k ≤ 3 ∧ i = .int .i64 k ∧ ∃ n, wr = W.drewN n) (fun i _ => 3 - (intOf i).toNat)
  case atStart => exact ⟨0, by omega, rfl, 0, rfl⟩
  case round =>
    obtain ⟨i, hi3, rfl, n, rfl⟩ := hrel
    by_cases hi : i < 3
    · have i0 : (i : Int) < 3 := by omega
      go_wp2_with fail
      go_loopw [6] (fun k wr => ∃ j : Nat, j ≤ 3 ∧ k = .int .i64 j ∧ ∃ n, wr = W.drewN n) (fun i _ => 3 - (intOf i).toNat)
      case atStart => exact ⟨0, by omega, rfl, n, rfl⟩
      case round =>
        obtain ⟨k, hk3, rfl, m, rfl⟩ := hrel
        by_cases hk : k < 3
        · have k0 : (k : Int) < 3 := by omega
          have mi : (i + 1) % 3 < 3 := Nat.mod_lt _ (by omega)
          have mk : (k + 1) % 3 < 3 := Nat.mod_lt _ (by omega)
          have c0 := C1 i hi
          have c1 := C1 _ mi
          have c2 := C2 k hk
          have c3 := C2 _ mk
          have hno := HNO.out i k hi hk
          have r1 : ((i : Int) + 1).tmod 3 = (((i + 1) % 3 : Nat) : Int) := by
            rw [Int.tmod_eq_emod_of_nonneg (by omega)]; rfl
          have r2 : ((k : Int) + 1).tmod 3 = (((k + 1) % 3 : Nat) : Int) := by
            rw [Int.tmod_eq_emod_of_nonneg (by omega)]; rfl
          have y1 : IntKind.i64.wrap ((i : Int) + 1) = (i : Int) + 1 := wrap_id (by omega) (by omega)
          have y2 : IntKind.i64.wrap ((k : Int) + 1) = (k : Int) + 1 := wrap_id (by omega) (by omega)
          have y3 : (0 : Int) ≤ (i : Int) := by omega
          have y4 : (0 : Int) ≤ (k : Int) := by omega
          generalize (i + 1) % 3 = im at *
          generalize (k + 1) % 3 = km at *
          have y5 : (0 : Int) ≤ (im : Int) := by omega
          have y6 : (0 : Int) ≤ (km : Int) := by omega
          have y7 : (im : Int) < 3 := by omega
          have y8 : (km : Int) < 3 := by omega
          generalize nth3 s i = x1 at *
          generalize nth3 s im = x2 at *
          generalize nth3 t k = x3 at *
          generalize nth3 t km = x4 at *
          by_cases e1 : x1 = x3
          · have e2 : (x2 == x4) = false := beq_eq_false_iff_ne.2 (fun e => hno ⟨e1, e⟩)
            have e3 : (x1 == x3) = true := by rw [e1]; simp
            clear hno e1
            go_wp2_with fail
            go_quiet (fail)
            go_wp2
            go_roundw
            case rel => exact ⟨k + 1, by omega, by go_num, _, by first | rfl | simp [World.drewN_drewN]⟩
            case measure => simp [intOf]; omega
          · have e3 : (x1 == x3) = false := beq_eq_false_iff_ne.2 e1
            clear hno e1
            go_wp2_with fail
            go_quiet (fail)
            go_wp2
            go_roundw
            case rel => exact ⟨k + 1, by omega, by go_num, _, by first | rfl | simp [World.drewN_drewN]⟩
            case measure => simp [intOf]; omega
        · have k0 : decide ((k : Int) < 3) = false := decide_eq_false (by omega)
          go_wp2
          go_roundw
          case rel => exact ⟨i + 1, by omega, by go_num, _, rfl⟩
          case measure => simp [intOf]; omega
    · have i0 : decide ((i : Int) < 3) = false := decide_eq_false (by omega)
      go_wp2
      go_ret
      rw [hB1]
      exact ⟨rfl, hbW _⟩

theorem eqTri (a b c a' b' c' : Int) (w : World) : (Op.equalIn 10000 53 (.agg #[.int .i64 a, .int .i64 b, .int .i64 c]) (.agg #[.int .i64 a', .int .i64 b', .int .i64 c'])).run Tryz.prog w = .ok (a == a' && b == b' && c == c') w := by
  have u3 := Tryz.underlying3
  have a3 := Tryz.isAgg3
  have z3 := Tryz.sizeOf3
  rw [show (10000 : Nat) = 9999 + 1 from rfl, Op.equalIn]
  simp only [Sem.run_bind, run_underlying Tryz.underlying53, Result.andThen_ok]
  simp only [Std.Legacy.Range.forIn_eq_forIn_range', Std.Legacy.Range.size, Nat.sub_zero, Nat.add_sub_cancel, Nat.div_one, List.range'_succ, List.range'_zero, List.forIn_cons, List.forIn_nil]
  go_simp
  by_cases h1 : a = a' <;> by_cases h2 : b = b' <;> by_cases h3 : c = c' <;> simp [h1, h2, h3]

end Go.Proofs.YtgpapegpdfonpaaGreat
