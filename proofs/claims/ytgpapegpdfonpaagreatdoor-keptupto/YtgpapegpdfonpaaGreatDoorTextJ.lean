/-
  Package text: Fault.
-/
import Derived.Test.YtgpapegpdfonpaaGreatDoorTextI
import Derived.Test.YtgpapegpdfonpaaGreatDoorWalksJ
namespace Go.Proofs.YtgpapegpdfonpaaGreatDoor
set_option linter.unusedVariables false
set_option linter.unusedSimpArgs false
open Go.RowKit

theorem raw_belowT {w w' : World} {a : Option Addr} {l : List Pt} (h : RawAt w a l) (hb : Below w.heap.size w w') : RawAt w' a l := by
  rcases h with h | ⟨b, off, e, hlt, hp⟩
  · exact .inl h
  · exact .inr ⟨b, off, e, Nat.lt_of_lt_of_le hlt hb.size, hp.below hb hlt⟩
def limitN (l : List Pt) : Int := if 60 < l.length then 2 else if anyFarB l = true then 1 else 0
theorem limit_all (pa : Option Addr) (pc : Nat) (l : List Pt) (w : World) (hr : RawAt w pa l) :
    Calls Tryz.prog 65 #[.slice pa l.length pc] w fun e w' => e = .returned (.int .i64 (limitN l)) ∧ Below w.heap.size w w' := by
  unfold limitN
  by_cases h : 60 < l.length
  · rw [if_pos h]
    exact (limit_many pa l.length pc w h).mono fun e w' ⟨he, hw⟩ => ⟨he, by rw [hw]; exact Below.refl _ _⟩
  · rw [if_neg h]
    rcases hr with rfl | ⟨b, off, rfl, hb, hp⟩
    · exact (limit_none pa pc w).mono fun e w' ⟨he, hw⟩ => ⟨he, by rw [hw]; exact Below.refl _ _⟩
    · exact limit_any b off pc l w (by omega) hb hp
def wfaultN (l : List Pt) (ts : List (Int × Int × Int)) : Int := if limitN l ≠ 0 then limitN l else if noneB l.length ts = true then 4 else 0
set_option maxHeartbeats 2000000 in
theorem wfault_any (pa : Option Addr) (pc : Nat) (l : List Pt) (ta : Option Addr) (tc : Nat) (ts : List (Int × Int × Int)) (w : World) (hr : RawAt w pa l) (ht : TriRaw w ta ts) (hl : ts.length ≤ 1000000000) :
    Calls Tryz.prog 29 #[.slice pa l.length pc, .slice ta ts.length tc] w fun e w' => e = .returned (.int .i64 (wfaultN l ts)) ∧ Below w.heap.size w w' := by
  have hb0 := below1 w (.cells #[.slice pa l.length pc] 41)
  have HL := Lib.hid (limit_all pa pc l _ (raw_belowT hr hb0))
  have x0 : (w.alloc (.cells #[.slice pa l.length pc] 41)).cell? ⟨w.heap.size, 0, none⟩ = some (.slice pa l.length pc) := by rw [World.cell?_alloc_at _ _ _ _ (by simp)]; rfl
  have hlt : w.heap.size < (w.alloc (.cells #[.slice pa l.length pc] 41)).heap.size := by simp
  have HC : Hid (∀ W, Below (w.alloc (.cells #[.slice pa l.length pc] 41)).heap.size (w.alloc (.cells #[.slice pa l.length pc] 41)) W → Calls Tryz.prog 75 #[.slice ta ts.length tc, .func (.func 76) #[] #[.pointer (some ⟨w.heap.size, 0, none⟩)]] W fun e w' => e = .returned (.bool (noneB l.length ts)) ∧ Below W.heap.size W w') := fun W hb =>
    containsTri_any ta tc ts w.heap.size pa l.length pc W hl ((ht.below hb0).below hb) ((hb.cell (p := ⟨w.heap.size, 0, none⟩) hlt).trans x0)
  have HB0 := Lib.hid hb0
  clear hr ht hl hb0
  by_cases h1 : limitN l ≠ 0
  · have hF : Hid (wfaultN l ts = limitN l) := by unfold Hid wfaultN; rw [if_pos h1]
    have hne : (limitN l != 0) = true := by simpa using h1
    obtain ⟨k, ek⟩ : ∃ k, limitN l = k := ⟨_, rfl⟩
    rw [ek] at HL hF hne
    clear h1 ek HC
    go_enter Tryz.func29, Tryz.ntmps29
    go_wp2_with (go_at_call 65; refine HL.out.mono ?_; rintro e w1 ⟨rfl, hb1⟩)
    go_ret
    exact ⟨by rw [hF.out]; rfl, HB0.out.trans (hb1.mono HB0.out.size)⟩
  · have h0 : limitN l = 0 := by simpa using h1
    rw [h0] at HL
    have hF : Hid (wfaultN l ts = if noneB l.length ts = true then 4 else 0) := by unfold Hid wfaultN; rw [if_neg h1]
    clear h1 h0
    obtain ⟨nb, enb⟩ : ∃ nb, noneB l.length ts = nb := ⟨_, rfl⟩
    rw [enb] at HC hF
    clear enb
    cases nb with
    | false =>
      go_enter Tryz.func29, Tryz.ntmps29
      go_wp2_with (first
        | (go_at_call 65; refine HL.out.mono ?_; rintro e w1 ⟨rfl, hb1⟩)
        | (go_at_call 75; refine (HC.out _ hb1).mono ?_; rintro e w2 ⟨rfl, hb2⟩))
      go_ret
      have hb3 := HB0.out.trans (hb1.mono HB0.out.size)
      exact ⟨by rw [hF.out]; rfl, hb3.trans (hb2.mono hb3.size)⟩
    | true =>
      go_enter Tryz.func29, Tryz.ntmps29
      go_wp2_with (first
        | (go_at_call 65; refine HL.out.mono ?_; rintro e w1 ⟨rfl, hb1⟩)
        | (go_at_call 75; refine (HC.out _ hb1).mono ?_; rintro e w2 ⟨rfl, hb2⟩))
      go_ret
      have hb3 := HB0.out.trans (hb1.mono HB0.out.size)
      exact ⟨by rw [hF.out]; rfl, hb3.trans (hb2.mono hb3.size)⟩
end Go.Proofs.YtgpapegpdfonpaaGreatDoor
