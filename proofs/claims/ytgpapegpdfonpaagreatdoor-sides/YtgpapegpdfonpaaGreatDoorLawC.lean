/-
  The statement's book: Book.kept and Book.ints walked.
-/
import Derived.Test.YtgpapegpdfonpaaGreatDoorLawB
namespace Go.Proofs.YtgpapegpdfonpaaGreatDoor
set_option linter.unusedVariables false
set_option linter.unusedSimpArgs false
open Go.RowKit
attribute [local go_sem ↓] Go.wp_at_zero Go.wp_at_succ

theorem own_anyW {w : World} {base n : Nat} {e : TypeId} {xs : List Value} {v : Value} (h : w.ownsRow base e 1 v n xs) : ∃ a c, v = .slice a n c := by
  rcases own_shape h with ⟨rfl, rfl⟩ | ⟨g, c, rfl⟩
  · exact ⟨none, 0, rfl⟩
  · exact ⟨_, _, rfl⟩
theorem own_place {w : World} {base n c : Nat} {e : TypeId} {xs : List Value} {a : Option Addr} (h : w.ownsRow base e 1 (.slice a n c) n xs) (j : Nat) (hj : j < n) : ∃ g, a = some ⟨g, 0, none⟩ ∧ g < w.heap.size ∧ w.cell? ⟨g, j, none⟩ = xs[j]? := by
  rcases own_shape h with ⟨e, h0⟩ | ⟨g, cap, e⟩
  · omega
  · cases e
    obtain ⟨_, cur, hh⟩ := own_typ h (g := g) rfl
    exact ⟨g, rfl, lt_some hh, h.cellAt j (by omega)⟩

theorem Book.cells {w : World} {WB : Nat} {vI vM : Value} {ls : List Value} {ms : List Int} {nk : Nat} (h : Book w WB vI vM ls ms nk) :
    w.cell? ⟨WB, 0, none⟩ = some (.slice none 0 0) ∧ w.cell? ⟨WB, 1, none⟩ = some vI ∧ w.cell? ⟨WB, 2, none⟩ = some vM ∧ w.cell? ⟨WB, 3, none⟩ = some (.slice none 0 0) ∧ w.cell? ⟨WB, 5, none⟩ = some (.slice none 0 0) ∧ w.cell? ⟨WB, 7, none⟩ = some (.int .i64 (nk : Int)) := by
  have hb := h.blk
  simp [World.cell?, hb, bookCells]
theorem Book.frozen {w : World} {WB : Nat} {vI vM : Value} {ls : List Value} {ms : List Int} {nk : Nat} (h : Book w WB vI vM ls ms nk) (j : Nat) : w.frozen? ⟨WB, j, none⟩ = false := by
  have hb := h.blk
  simp [World.frozen?, hb]

/-- what is read of an entry -/
theorem Book.entry {w : World} {WB : Nat} {ia ma : Option Addr} {ic mc : Nat} {ls : List Value} {ms : List Int} {nk : Nat} (h : Book w WB (.slice ia ls.length ic) (.slice ma ms.length mc) ls ms nk) (hlen : ls.length = ms.length) (k : Nat) (hk : k < ls.length) :
    ∃ gI gM a n c m, ia = some ⟨gI, 0, none⟩ ∧ ma = some ⟨gM, 0, none⟩ ∧ w.cell? ⟨gI, k, none⟩ = some (.slice a n c) ∧ w.cell? ⟨gM, k, none⟩ = some (.int .i64 m) ∧ n ≤ maxLen ∧ ∀ j, j < n → ∃ g, a = some ⟨g, 0, none⟩ ∧ w.cell? ⟨g, j, none⟩ = some (.int .i64 m) := by
  obtain ⟨gI, rfl, _, cI⟩ := own_place h.ownI k hk
  obtain ⟨gM, rfl, _, cM⟩ := own_place h.ownM k (by omega)
  have hkm : k < ms.length := by omega
  have hz : k < (ls.zip ms).length := by simp; omega
  have he := h.ent _ (List.getElem_mem hz)
  rw [List.getElem_zip] at he
  obtain ⟨a, n, c, hv, hmx, hE⟩ := he
  simp only at hv hE
  refine ⟨gI, gM, a, n, c, ms[k], rfl, rfl, ?_, ?_, hmx, fun j hj => ?_⟩
  · rw [cI, ← hv]; simp [hk]
  · rw [cM]; simp [hkm]
  · rcases hE with h0 | ⟨g, cur, rfl, _, _, hh, hc⟩
    · omega
    · exact ⟨g, rfl, by simp [World.cell?, hh, hc j hj]⟩

set_option maxHeartbeats 4000000 in
theorem kept_any (WB : Nat) (vI vM : Value) (ls : List Value) (ms : List Int) (nk : Nat) (w : World) (h : Book w WB vI vM ls ms nk) (hlen : ls.length = ms.length) (hl : ls.length ≤ 3703618116000) :
    Calls Tryz.prog 18 #[.pointer (some ⟨WB, 1, none⟩)] w fun e w' => e = .returned (.bool true) ∧ Below w.heap.size w w' := by
  obtain ⟨ia, ic, rfl⟩ := own_anyW h.ownI
  obtain ⟨ma, mc, rfl⟩ := own_anyW h.ownM
  have HB : Hid (Book w WB (.slice ia ls.length ic) (.slice ma ms.length mc) ls ms nk) := h
  have HL : Hid (ls.length = ms.length ∧ ls.length ≤ 3703618116000) := ⟨hlen, hl⟩
  have hWB := h.lt
  have l8 : (ls.length : Int) ≤ 3703618116000 := by omega
  clear h hl
  go_enter Tryz.func18, Tryz.ntmps18
  go_wp2
  go_loopw [3] (fun i wr => ∃ k : Nat, k ≤ ls.length ∧ i = .int .i64 k ∧ Below w.heap.size w wr) (fun i _ => ls.length - (intOf i).toNat)
  case atStart => exact ⟨0, by omega, rfl, Below.refl _ _⟩
  case round =>
    obtain ⟨k, hk, rfl, hnx⟩ := hrel
    obtain ⟨_, b1, b2, b3, b5, _⟩ := (HB.out.below hnx).cells
    by_cases hlt : k < ls.length
    · clear b3 b5 b1 b2
      have ENT : Hid (∀ wr, Below w.heap.size w wr → ∃ gI gM a n c m, ia = some ⟨gI, 0, none⟩ ∧ ma = some ⟨gM, 0, none⟩ ∧ wr.cell? ⟨gI, k, none⟩ = some (.slice a n c) ∧ wr.cell? ⟨gM, k, none⟩ = some (.int .i64 m) ∧ n ≤ maxLen ∧ ∀ j, j < n → ∃ g, a = some ⟨g, 0, none⟩ ∧ wr.cell? ⟨g, j, none⟩ = some (.int .i64 m)) :=
        fun wr hb => (HB.out.below hb).entry HL.out.1 k hlt
      obtain ⟨gI, gM, a, n, c, m, rfl, rfl, c0, c1, hn, hcs⟩ := HB.out.entry HL.out.1 k hlt
      have HC : Hid (∀ wr, Below w.heap.size w wr → wr.cell? ⟨WB, 1, none⟩ = some (.slice (some ⟨gI, 0, none⟩) ls.length ic) ∧ wr.cell? ⟨WB, 2, none⟩ = some (.slice (some ⟨gM, 0, none⟩) ms.length mc) ∧ wr.cell? ⟨gI, k, none⟩ = some (.slice a n c) ∧ wr.cell? ⟨gM, k, none⟩ = some (.int .i64 m)) := fun wr hb => by
        obtain ⟨_, b1, b2, _⟩ := (HB.out.below hb).cells
        exact ⟨b1, b2, (hb.cell (p := ⟨gI, k, none⟩) (World.block_lt_of_cell? w _ c0)).trans c0, (hb.cell (p := ⟨gM, k, none⟩) (World.block_lt_of_cell? w _ c1)).trans c1⟩
      have HN : Hid (∀ wr, Below w.heap.size w wr → ∀ j, j < n → ∃ g, a = some ⟨g, 0, none⟩ ∧ wr.cell? ⟨g, j, none⟩ = some (.int .i64 m)) := fun wr hb j hj => by
        obtain ⟨g, ha, hc⟩ := hcs j hj
        exact ⟨g, ha, (hb.cell (p := ⟨g, j, none⟩) (World.block_lt_of_cell? w _ hc)).trans hc⟩
      have n63 : (n : Int) ≤ 9223372036854775807 := by unfold maxLen at hn; omega
      clear ENT c0 c1 hcs hn
      have x0 : (0 : Int) ≤ (k : Int) := by omega
      have x1 : (k : Int) < (ls.length : Int) := by omega
      have x3 : (k : Int) < (ms.length : Int) := by omega
      have x4 : IntKind.i64.wrap ((k : Int) + 1) = (k : Int) + 1 := wrap_id (by omega) (by omega)
      obtain ⟨b1, b2, b3, b4⟩ := HC.out wr hnx
      go_wp2
      go_loopw [4] (fun i wr => ∃ j : Nat, j ≤ n ∧ i = .int .i64 j ∧ Below w.heap.size w wr) (fun i _ => n - (intOf i).toNat)
      case atStart => exact ⟨0, by omega, rfl, hnx⟩
      case round =>
        clear hnx b1 b2 b3 b4
        obtain ⟨j, hj, rfl, hnx⟩ := hrel
        obtain ⟨b1, b2, b3, b4⟩ := HC.out wr hnx
        by_cases hjn : j < n
        · obtain ⟨g, rfl, b5⟩ := HN.out wr hnx j hjn
          have y0 : (0 : Int) ≤ (j : Int) := by omega
          have y1 : (j : Int) < (n : Int) := by omega
          have y4 : IntKind.i64.wrap ((j : Int) + 1) = (j : Int) + 1 := wrap_id (by omega) (by omega)
          clear HC HN
          go_wp2_with fail
          go_quiet (fail)
          go_wp2
          go_roundw
          case rel => exact ⟨j + 1, by omega, by go_num, below_drewN hnx⟩
          case measure => simp [intOf]; omega
        · go_wp2
          go_roundw
          case rel => exact ⟨k + 1, by omega, by go_num, hnx⟩
          case measure => simp [intOf]; omega
    · clear b2
      go_wp2
      go_loopw [5] (fun i wr => i = .int .i64 0 ∧ Below w.heap.size w wr) (fun _ _ => 0)
      case atStart => exact ⟨rfl, hnx⟩
      case round =>
        clear hnx b1 b3 b5
        obtain ⟨rfl, hnx⟩ := hrel
        obtain ⟨_, b1, b2, b3, b5, _⟩ := (HB.out.below hnx).cells
        go_wp2
        go_loopw [8] (fun i wr => i = .int .i64 0 ∧ Below w.heap.size w wr) (fun _ _ => 0)
        case atStart => exact ⟨rfl, hnx⟩
        case round =>
          clear hnx b1 b2 b3 b5
          obtain ⟨rfl, hnx⟩ := hrel
          obtain ⟨_, b1, b2, b3, b5, _⟩ := (HB.out.below hnx).cells
          go_wp2
          go_ret
          exact ⟨rfl, hnx⟩

end Go.Proofs.YtgpapegpdfonpaaGreatDoor
