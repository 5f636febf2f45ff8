/-
  The statement's book, whole: kept walked.
-/
import Derived.Test.YtgpapegpdfonpaaGreatDoorBookIT
import Derived.BigQuiet
import Derived.Deep.CutRange
import Derived.BigRegion
import Derived.Deep.DeepCutAuto
import Derived.Deep.CutBlock
set_option linter.unusedVariables false
set_option linter.unusedSimpArgs false
namespace Go.Proofs.YtgpapegpdfonpaaGreatDoor
open Go.RowKit
attribute [local go_sem ↓] Go.wp_at_zero Go.wp_at_succ
theorem eqTriB (a b c a' b' c' : Int) (w : World) : (Op.equalIn 10000 53 (.agg #[.int .i64 a, .int .i64 b, .int .i64 c]) (.agg #[.int .i64 a', .int .i64 b', .int .i64 c'])).run Tryz.prog w = .ok (a == a' && b == b' && c == c') w := by
 have u3 := Tryz.underlying3
 have a3 := Tryz.isAgg3
 have z3 := Tryz.sizeOf3
 rw [show (10000 : Nat) = 9999 + 1 from rfl, Op.equalIn]
 simp only [Sem.run_bind, run_underlying Tryz.underlying53, Result.andThen_ok]
 simp only [Std.Legacy.Range.forIn_eq_forIn_range', Std.Legacy.Range.size, Nat.sub_zero, Nat.add_sub_cancel, Nat.div_one, List.range'_succ, List.range'_zero, List.forIn_cons, List.forIn_nil]
 go_simp
 by_cases h1 : a = a' <;> by_cases h2 : b = b' <;> by_cases h3 : c = c' <;> simp [h1, h2, h3]
def Reads (w : World) (ia ma : Option Addr) (len s : Nat) : Prop :=
 ∀ k, k < len → ∃ gI gM a n c m, ia = some ⟨gI, 0, none⟩ ∧ ma = some ⟨gM, 0, none⟩ ∧ w.cell? ⟨gI, k, none⟩ = some (.slice a n c) ∧ w.cell? ⟨gM, k, none⟩ = some (.int .i64 m) ∧ n ≤ maxLen ∧ ∀ j, j < n * s → ∃ g, a = some ⟨g, 0, none⟩ ∧ w.cell? ⟨g, j, none⟩ = some (.int .i64 m)
theorem Reads.below {w w' : World} {ia ma : Option Addr} {len s : Nat} (h : Reads w ia ma len s) (hb : Below w.heap.size w w') : Reads w' ia ma len s := fun k hk => by
 obtain ⟨gI, gM, a, n, c, m, e1, e2, c0, c1, hn, hc⟩ := h k hk
 refine ⟨gI, gM, a, n, c, m, e1, e2, (hb.cell (p := ⟨gI, k, none⟩) (World.block_lt_of_cell? w _ c0)).trans c0, (hb.cell (p := ⟨gM, k, none⟩) (World.block_lt_of_cell? w _ c1)).trans c1, hn, fun j hj => ?_⟩
 obtain ⟨g, ha, hc⟩ := hc j hj
 exact ⟨g, ha, (hb.cell (p := ⟨g, j, none⟩) (World.block_lt_of_cell? w _ hc)).trans hc⟩
theorem Shelf.reads {w : World} {tag : Nat → Nat} {i s ic mc : Nat} {tL tE : TypeId} {x : Sh} {ia ma : Option Addr} (h : Shelf w tag i tL tE s x) (eI : x.vL = .slice ia x.ls.length ic) (eM : x.vM = .slice ma x.ms.length mc) (hlen : x.ls.length = x.ms.length) : Reads w ia ma x.ls.length s := fun k hk => by
 have oL := h.ownL
 have oM := h.ownM
 rw [eI] at oL
 rw [eM] at oM
 obtain ⟨gI, rfl, _, cI⟩ := own_place oL k hk
 obtain ⟨gM, rfl, _, cM⟩ := own_place oM k (by omega)
 have hkm : k < x.ms.length := by omega
 have hz : k < (x.ls.zip x.ms).length := by simp; omega
 have he := h.ent _ (List.getElem_mem hz)
 rw [List.getElem_zip] at he
 obtain ⟨a, n, c, hv, hmx, hE⟩ := he
 simp only at hv hE
 refine ⟨gI, gM, a, n, c, x.ms[k], rfl, rfl, ?_, ?_, hmx, fun j hj => ?_⟩
 ·rw [cI, ← hv]; simp [hk]
 ·rw [cM]; simp [hkm]
 ·rcases hE with h0 | ⟨g, cur, rfl, _, _, hh, hc⟩
  ·rw [h0] at hj; simp at hj
  ·exact ⟨g, rfl, by simp [World.cell?, hh, hc j hj]⟩
structure BkR (w : World) (WB : Nat) (i0 m0 i1 m1 i2 m2 : Option Addr) (c0 d0 c1 d1 c2 d2 l0 l1 l2 : Nat) : Prop where
 cells : w.cell? ⟨WB, 1, none⟩ = some (.slice i0 l0 c0) ∧ w.cell? ⟨WB, 2, none⟩ = some (.slice m0 l0 d0) ∧ w.cell? ⟨WB, 3, none⟩ = some (.slice i1 l1 c1) ∧ w.cell? ⟨WB, 4, none⟩ = some (.slice m1 l1 d1) ∧ w.cell? ⟨WB, 5, none⟩ = some (.slice i2 l2 c2) ∧ w.cell? ⟨WB, 6, none⟩ = some (.slice m2 l2 d2)
 r0 : Reads w i0 m0 l0 1
 r1 : Reads w i1 m1 l1 3
 r2 : Reads w i2 m2 l2 2
theorem BkR.below {w w' : World} {WB : Nat} {i0 m0 i1 m1 i2 m2 : Option Addr} {c0 d0 c1 d1 c2 d2 l0 l1 l2 : Nat} (h : BkR w WB i0 m0 i1 m1 i2 m2 c0 d0 c1 d1 c2 d2 l0 l1 l2) (hb : Below w.heap.size w w') : BkR w' WB i0 m0 i1 m1 i2 m2 c0 d0 c1 d1 c2 d2 l0 l1 l2 := by
 obtain ⟨h1, h2, h3, h4, h5, h6⟩ := h.cells
 have hW := World.block_lt_of_cell? w _ h1
 exact ⟨⟨(hb.cell (p := ⟨WB, 1, none⟩) hW).trans h1, (hb.cell (p := ⟨WB, 2, none⟩) hW).trans h2, (hb.cell (p := ⟨WB, 3, none⟩) hW).trans h3, (hb.cell (p := ⟨WB, 4, none⟩) hW).trans h4, (hb.cell (p := ⟨WB, 5, none⟩) hW).trans h5, (hb.cell (p := ⟨WB, 6, none⟩) hW).trans h6⟩, h.r0.below hb, h.r1.below hb, h.r2.below hb⟩
theorem Bk.toR {w : World} {WB nk : Nat} {v0 : Value} {tag : Nat → Nat} {sh : Nat → Sh} (h : Bk w WB v0 tag sh nk) (hlen : ∀ j, j < 3 → (sh j).ls.length = (sh j).ms.length) :
  ∃ i0 m0 i1 m1 i2 m2 c0 d0 c1 d1 c2 d2, BkR w WB i0 m0 i1 m1 i2 m2 c0 d0 c1 d1 c2 d2 (sh 0).ls.length (sh 1).ls.length (sh 2).ls.length := by
 obtain ⟨i0, c0, m0, d0, e0, f0, _⟩ := h.forms 0 (by decide)
 obtain ⟨i1, c1, m1, d1, e1, f1, _⟩ := h.forms 1 (by decide)
 obtain ⟨i2, c2, m2, d2, e2, f2, _⟩ := h.forms 2 (by decide)
 obtain ⟨_, a1, a2, a3, a4, a5, a6, _⟩ := h.cells
 refine ⟨i0, m0, i1, m1, i2, m2, c0, d0, c1, d1, c2, d2, ⟨?_, (h.she 0 (by decide)).reads e0 f0 (hlen 0 (by decide)), (h.she 1 (by decide)).reads e1 f1 (hlen 1 (by decide)), (h.she 2 (by decide)).reads e2 f2 (hlen 2 (by decide))⟩⟩
 rw [a1, a2, a3, a4, a5, a6, e0, f0, e1, f1, e2, f2, hlen 0 (by decide), hlen 1 (by decide), hlen 2 (by decide)]
 exact ⟨rfl, rfl, rfl, rfl, rfl, rfl⟩
set_option maxRecDepth 100000 in
set_option maxHeartbeats 8000000 in
theorem bkept_R (WB : Nat) (i0 m0 i1 m1 i2 m2 : Option Addr) (c0 d0 c1 d1 c2 d2 l0 l1 l2 : Nat) (w : World) (h : BkR w WB i0 m0 i1 m1 i2 m2 c0 d0 c1 d1 c2 d2 l0 l1 l2) (b0 : l0 ≤ 3703618119000) (b1 : l1 ≤ 3703618119000) (b2 : l2 ≤ 3703618119000) :
  Calls Tryz.prog 18 #[.pointer (some ⟨WB, 1, none⟩)] w fun e w' => e = .returned (.bool true) ∧ Below w.heap.size w w' := by
 have HB : Hid (BkR w WB i0 m0 i1 m1 i2 m2 c0 d0 c1 d1 c2 d2 l0 l1 l2) := h
 have hWB : WB < w.heap.size := World.block_lt_of_cell? w _ h.cells.1
 have heq := eqTriB
 clear h
 go_enter Tryz.func18, Tryz.ntmps18
 go_upto_block 0 with fail
 go_cut [3] (fun _ wx => Below w.heap.size w wx)
 case first =>
  as_aux_lemma =>
  go_wp2_with fail
  go_loopw [3] (fun i wr => ∃ k : Nat, k ≤ l0 ∧ i = .int .i64 k ∧ Below w.heap.size w wr) (fun i _ => l0 - (intOf i).toNat)
  case atStart => exact ⟨0, by omega, rfl, Below.refl _ _⟩
  case round =>
   obtain ⟨k, hk, rfl, hnx⟩ := hrel
   obtain ⟨a1, a2, _⟩ := (HB.out.below hnx).cells
   by_cases hlt : k < l0
   ·obtain ⟨gI, gM, a, n, c, m, rfl, rfl, c0', c1', hn, hcs⟩ := HB.out.r0 k hlt
    have HC : Hid (∀ wr, Below w.heap.size w wr → wr.cell? ⟨WB, 1, none⟩ = some (.slice (some ⟨gI, 0, none⟩) l0 c0) ∧ wr.cell? ⟨WB, 2, none⟩ = some (.slice (some ⟨gM, 0, none⟩) l0 d0) ∧ wr.cell? ⟨gI, k, none⟩ = some (.slice a n c) ∧ wr.cell? ⟨gM, k, none⟩ = some (.int .i64 m)) := fun wr hb => by
     obtain ⟨b1, b2, _⟩ := (HB.out.below hb).cells
     exact ⟨b1, b2, (hb.cell (p := ⟨gI, k, none⟩) (World.block_lt_of_cell? w _ c0')).trans c0', (hb.cell (p := ⟨gM, k, none⟩) (World.block_lt_of_cell? w _ c1')).trans c1'⟩
    have HN : Hid (∀ wr, Below w.heap.size w wr → ∀ j, j < n → ∃ g, a = some ⟨g, 0, none⟩ ∧ wr.cell? ⟨g, j, none⟩ = some (.int .i64 m)) := fun wr hb j hj => by
     obtain ⟨g, ha, hc⟩ := hcs j (by omega)
     exact ⟨g, ha, (hb.cell (p := ⟨g, j, none⟩) (World.block_lt_of_cell? w _ hc)).trans hc⟩
    have n63 : (n : Int) ≤ 9223372036854775807 := by unfold maxLen at hn; omega
    clear c0' c1' hcs hn a1 a2
    have x0 : (0 : Int) ≤ (k : Int) := by omega
    have x1 : (k : Int) < (l0 : Int) := by omega
    have x4 : IntKind.i64.wrap ((k : Int) + 1) = (k : Int) + 1 := wrap_id (by omega) (by omega)
    obtain ⟨q1, q2, q3, q4⟩ := HC.out wr hnx
    go_wp2
    go_loopw [4] (fun i wr => ∃ j : Nat, j ≤ n ∧ i = .int .i64 j ∧ Below w.heap.size w wr) (fun i _ => n - (intOf i).toNat)
    case atStart => exact ⟨0, by omega, rfl, hnx⟩
    case round =>
     clear hnx q1 q2 q3 q4
     obtain ⟨j, hj, rfl, hnx⟩ := hrel
     obtain ⟨q1, q2, q3, q4⟩ := HC.out wr hnx
     by_cases hjn : j < n
     ·obtain ⟨g, rfl, q5⟩ := HN.out wr hnx j hjn
      have y0 : (0 : Int) ≤ (j : Int) := by omega
      have y1 : (j : Int) < (n : Int) := by omega
      have y4 : IntKind.i64.wrap ((j : Int) + 1) = (j : Int) + 1 := wrap_id (by omega) (by omega)
      clear HC HN
      go_wp2_with fail
      go_quiet (fail)
      go_wp2
      go_roundw
      case rel => exact ⟨j + 1, by omega, by go_num, below_drewN hnx⟩
      case measure => simp [intOf]; omega
     ·go_wp2
      go_roundw
      case rel => exact ⟨k + 1, by omega, by go_num, hnx⟩
      case measure => simp [intOf]; omega
   ·go_wp2
    go_meet
    case rel => exact hnx
 case rest =>
  as_aux_lemma =>
  go_upto_block 4 with fail
  go_cut [5] (fun _ wx => Below w.heap.size w wx)
  case first =>
   as_aux_lemma =>
   go_wp2_with fail
   go_loopw [5] (fun i wr => ∃ k : Nat, k ≤ l1 ∧ i = .int .i64 k ∧ Below w.heap.size w wr) (fun i _ => l1 - (intOf i).toNat)
   case atStart => exact ⟨0, by omega, rfl, hcut⟩
   case round =>
    clear hcut
    obtain ⟨k, hk, rfl, hnx⟩ := hrel
    obtain ⟨a1, a2, a3, a4, a5, a6⟩ := (HB.out.below hnx).cells
    by_cases hlt : k < l1
    ·obtain ⟨gI, gM, a, n, c, m, rfl, rfl, c0', c1', hn, hcs⟩ := HB.out.r1 k hlt
     have HC : Hid (∀ wr, Below w.heap.size w wr → wr.cell? ⟨WB, 3, none⟩ = some (.slice (some ⟨gI, 0, none⟩) l1 c1) ∧ wr.cell? ⟨WB, 4, none⟩ = some (.slice (some ⟨gM, 0, none⟩) l1 d1) ∧ wr.cell? ⟨gI, k, none⟩ = some (.slice a n c) ∧ wr.cell? ⟨gM, k, none⟩ = some (.int .i64 m)) := fun wr hb => by
      obtain ⟨b1, b2, b3, b4, b5, b6⟩ := (HB.out.below hb).cells
      exact ⟨b3, b4, (hb.cell (p := ⟨gI, k, none⟩) (World.block_lt_of_cell? w _ c0')).trans c0', (hb.cell (p := ⟨gM, k, none⟩) (World.block_lt_of_cell? w _ c1')).trans c1'⟩
     have HN : Hid (∀ wr, Below w.heap.size w wr → ∀ j, j < n → ∃ g, a = some ⟨g, 0, none⟩ ∧ ∀ i, i < 3 → wr.cell? ⟨g, j * 3 + i, none⟩ = some (.int .i64 m)) := fun wr hb j hj => by
      obtain ⟨g, rfl, _⟩ := hcs (j * 3) (by omega)
      refine ⟨g, rfl, fun i hi => ?_⟩
      obtain ⟨g', ha, hc⟩ := hcs (j * 3 + i) (by omega)
      cases ha
      exact (hb.cell (p := ⟨g, j * 3 + i, none⟩) (World.block_lt_of_cell? w _ hc)).trans hc
     have n63 : (n : Int) ≤ 9223372036854775807 := by unfold maxLen at hn; omega
     clear c0' c1' hcs hn a1 a2 a3 a4 a5 a6
     have x0 : (0 : Int) ≤ (k : Int) := by omega
     have x1 : (k : Int) < (l1 : Int) := by omega
     have x4 : IntKind.i64.wrap ((k : Int) + 1) = (k : Int) + 1 := wrap_id (by omega) (by omega)
     obtain ⟨q1, q2, q3, q4⟩ := HC.out wr hnx
     go_wp2
     go_loopw [7] (fun i wr => ∃ j : Nat, j ≤ n ∧ i = .int .i64 j ∧ Below w.heap.size w wr) (fun i _ => n - (intOf i).toNat)
     case atStart => exact ⟨0, by omega, rfl, hnx⟩
     case round =>
      clear hnx q1 q2 q3 q4
      obtain ⟨j, hj, rfl, hnx⟩ := hrel
      obtain ⟨q1, q2, q3, q4⟩ := HC.out wr hnx
      by_cases hjn : j < n
      ·obtain ⟨g, rfl, q5⟩ := HN.out wr hnx j hjn
       have q50 := q5 0 (by omega)
       have q51 := q5 1 (by omega)
       have q52 := q5 2 (by omega)
       simp only [Nat.add_zero] at q50
       have y0 : (0 : Int) ≤ (j : Int) := by omega
       have y1 : (j : Int) < (n : Int) := by omega
       have y4 : IntKind.i64.wrap ((j : Int) + 1) = (j : Int) + 1 := wrap_id (by omega) (by omega)
       clear HC HN q5
       go_wp2
       go_roundw
       case rel => exact ⟨j + 1, by omega, by go_num, hnx⟩
       case measure => simp [intOf]; omega
      ·go_wp2
       go_roundw
       case rel => exact ⟨k + 1, by omega, by go_num, hnx⟩
       case measure => simp [intOf]; omega
    ·go_wp2
     go_meet
     case rel => exact hnx
  case rest =>
   as_aux_lemma =>
   go_upto_block 8 with fail
   go_wp2_with fail
   go_loopw [8] (fun i wr => ∃ k : Nat, k ≤ l2 ∧ i = .int .i64 k ∧ Below w.heap.size w wr) (fun i _ => l2 - (intOf i).toNat)
   case atStart => exact ⟨0, by omega, rfl, hcut⟩
   case round =>
    clear hcut
    obtain ⟨k, hk, rfl, hnx⟩ := hrel
    obtain ⟨a1, a2, a3, a4, a5, a6⟩ := (HB.out.below hnx).cells
    by_cases hlt : k < l2
    ·obtain ⟨gI, gM, a, n, c, m, rfl, rfl, c0', c1', hn, hcs⟩ := HB.out.r2 k hlt
     have HC : Hid (∀ wr, Below w.heap.size w wr → wr.cell? ⟨WB, 5, none⟩ = some (.slice (some ⟨gI, 0, none⟩) l2 c2) ∧ wr.cell? ⟨WB, 6, none⟩ = some (.slice (some ⟨gM, 0, none⟩) l2 d2) ∧ wr.cell? ⟨gI, k, none⟩ = some (.slice a n c) ∧ wr.cell? ⟨gM, k, none⟩ = some (.int .i64 m)) := fun wr hb => by
      obtain ⟨b1, b2, b3, b4, b5, b6⟩ := (HB.out.below hb).cells
      exact ⟨b5, b6, (hb.cell (p := ⟨gI, k, none⟩) (World.block_lt_of_cell? w _ c0')).trans c0', (hb.cell (p := ⟨gM, k, none⟩) (World.block_lt_of_cell? w _ c1')).trans c1'⟩
     have HN : Hid (∀ wr, Below w.heap.size w wr → ∀ j, j < n → ∃ g, a = some ⟨g, 0, none⟩ ∧ ∀ i, i < 2 → wr.cell? ⟨g, j * 2 + i, none⟩ = some (.int .i64 m)) := fun wr hb j hj => by
      obtain ⟨g, rfl, _⟩ := hcs (j * 2) (by omega)
      refine ⟨g, rfl, fun i hi => ?_⟩
      obtain ⟨g', ha, hc⟩ := hcs (j * 2 + i) (by omega)
      cases ha
      exact (hb.cell (p := ⟨g, j * 2 + i, none⟩) (World.block_lt_of_cell? w _ hc)).trans hc
     have n63 : (n : Int) ≤ 9223372036854775807 := by unfold maxLen at hn; omega
     clear c0' c1' hcs hn a1 a2 a3 a4 a5 a6
     have x0 : (0 : Int) ≤ (k : Int) := by omega
     have x1 : (k : Int) < (l2 : Int) := by omega
     have x4 : IntKind.i64.wrap ((k : Int) + 1) = (k : Int) + 1 := wrap_id (by omega) (by omega)
     obtain ⟨q1, q2, q3, q4⟩ := HC.out wr hnx
     go_wp2
     go_loopw [10] (fun i wr => ∃ j : Nat, j ≤ n ∧ i = .int .i64 j ∧ Below w.heap.size w wr) (fun i _ => n - (intOf i).toNat)
     case atStart => exact ⟨0, by omega, rfl, hnx⟩
     case round =>
      clear hnx q1 q2 q3 q4
      obtain ⟨j, hj, rfl, hnx⟩ := hrel
      obtain ⟨q1, q2, q3, q4⟩ := HC.out wr hnx
      by_cases hjn : j < n
      ·obtain ⟨g, rfl, q5⟩ := HN.out wr hnx j hjn
       have q50 := q5 0 (by omega)
       have q51 := q5 1 (by omega)
       simp only [Nat.add_zero] at q50
       have y0 : (0 : Int) ≤ (j : Int) := by omega
       have y1 : (j : Int) < (n : Int) := by omega
       have y4 : IntKind.i64.wrap ((j : Int) + 1) = (j : Int) + 1 := wrap_id (by omega) (by omega)
       clear HC HN q5
       go_wp2
       go_roundw
       case rel => exact ⟨j + 1, by omega, by go_num, hnx⟩
       case measure => simp [intOf]; omega
      ·go_wp2
       go_roundw
       case rel => exact ⟨k + 1, by omega, by go_num, hnx⟩
       case measure => simp [intOf]; omega
    ·go_wp2
     go_ret
     exact ⟨rfl, hnx⟩
theorem bkept_any (WB nk : Nat) (v0 : Value) (tag : Nat → Nat) (sh : Nat → Sh) (w : World) (h : Bk w WB v0 tag sh nk) (hlen : ∀ j, j < 3 → (sh j).ls.length = (sh j).ms.length) (hl : ∀ j, j < 3 → (sh j).ls.length ≤ 3703618119000) :
  Calls Tryz.prog 18 #[.pointer (some ⟨WB, 1, none⟩)] w fun e w' => e = .returned (.bool true) ∧ Below w.heap.size w w' := by
 obtain ⟨i0, m0, i1, m1, i2, m2, c0, d0, c1, d1, c2, d2, hR⟩ := h.toR hlen
 exact bkept_R WB i0 m0 i1 m1 i2 m2 c0 d0 c1 d1 c2 d2 _ _ _ w hR (hl 0 (by decide)) (hl 1 (by decide)) (hl 2 (by decide))
end Go.Proofs.YtgpapegpdfonpaaGreatDoor
