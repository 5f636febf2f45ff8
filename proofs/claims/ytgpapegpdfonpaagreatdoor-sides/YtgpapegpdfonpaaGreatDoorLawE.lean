/-
  The program's answers and the document's, side by side.
-/
import Derived.Test.YtgpapegpdfonpaaGreatDoorLawD
namespace Go.Proofs.YtgpapegpdfonpaaGreatDoor
set_option linter.unusedVariables false
set_option linter.unusedSimpArgs false
open Go.RowKit
attribute [local go_sem ↓] Go.wp_at_zero Go.wp_at_succ

theorem orient_any (ax ay bx by' cx cy : Int) (w : World) :
    Calls Tryz.prog 8 #[.agg #[.int .i64 ax, .int .i64 ay], .agg #[.int .i64 bx, .int .i64 by'], .agg #[.int .i64 cx, .int .i64 cy]] w fun e w' =>
      e = .returned (.tuple #[.int .i64 (if (farB ax ay || farB bx by' || farB cx cy) = true then 0 else sg (sideN ax ay bx by' cx cy)), .int .i64 (if (farB ax ay || farB bx by' || farB cx cy) = true then 1 else 0)]) ∧ Below w.heap.size w w' := by
  cases h : (farB ax ay || farB bx by' || farB cx cy) with
  | true => exact orient_far ax ay bx by' cx cy w h
  | false =>
    simp only [Bool.or_eq_false_iff] at h
    exact orient_near ax ay bx by' cx cy w (farB_near h.1.1) (farB_near h.1.2) (farB_near h.2)
theorem inCircle_any (ax ay bx by' cx cy dx dy : Int) (w : World) :
    Calls Tryz.prog 40 #[.agg #[.int .i64 ax, .int .i64 ay], .agg #[.int .i64 bx, .int .i64 by'], .agg #[.int .i64 cx, .int .i64 cy], .agg #[.int .i64 dx, .int .i64 dy]] w fun e w' =>
      e = .returned (.tuple #[.int .i64 (if (farB ax ay || farB bx by' || farB cx cy || farB dx dy) = true then 0 else sg (sideN ax ay bx by' cx cy) * sg (circN ax ay bx by' cx cy dx dy)), .int .i64 (if (farB ax ay || farB bx by' || farB cx cy || farB dx dy) = true then 1 else 0)]) ∧ Below w.heap.size w w' := by
  cases h : (farB ax ay || farB bx by' || farB cx cy || farB dx dy) with
  | true => exact inCircle_far ax ay bx by' cx cy dx dy w h
  | false =>
    simp only [Bool.or_eq_false_iff] at h
    exact inCircle_near ax ay bx by' cx cy dx dy w (farB_near h.1.1.1) (farB_near h.1.1.2) (farB_near h.1.2) (farB_near h.2)

theorem num_any (x : Int) (w : World) : Calls Tryz.prog 39 #[.int .i64 x] w fun e w' => e = .returned (.int .i64 x) ∧ w' = w := by
  go_enter Tryz.func39, Tryz.ntmps39
  go_wp2
  go_ret
  exact ⟨rfl, rfl⟩

/-- what Hull answers -/
def Ans (l : List Pt) (c : List Nat) : Prop := (c = [] ∧ (faultN l ≠ 0 ∨ l = [])) ∨ (faultN l = 0 ∧ 0 < l.length ∧ ∃ is, InOrder l is ∧ c = cornersN l is)
theorem Ans.le {l : List Pt} {c : List Nat} (h : Ans l c) : c.length ≤ 60 := by
  rcases h with ⟨rfl, _⟩ | ⟨hf, _, is, hio, rfl⟩
  · simp
  · obtain ⟨hl, hfar, hnd⟩ := fault_zero hf
    have := (arr_of hio hnd).le
    omega
theorem own_none (w : World) (base : Nat) : w.ownsRow base 3 1 (.slice none 0 0) ([] : List Nat).length (([] : List Nat).map toV) := World.ownsRow_nil _ _ _ _

theorem hullp_any (a : Option Addr) (cap : Nat) (l : List Pt) (w : World) (hr : RawAt w a l) :
    Calls Tryz.prog 43 #[.slice a l.length cap] w fun e w' => ∃ v c, e = .returned (.tuple #[v, .int .i64 (faultN l)]) ∧ Ans l c ∧ w'.ownsRow w.heap.size 3 1 v c.length (c.map toV) ∧ Below w.heap.size w w' := by
  by_cases h60 : 60 < l.length
  · refine (hull_many a l.length cap w h60).mono ?_
    rintro e w' ⟨rfl, hb⟩
    have hf : faultN l = 2 := fault_many' h60
    exact ⟨_, [], by rw [hf], .inl ⟨rfl, .inl (by rw [hf]; decide)⟩, own_none _ _, hb⟩
  · by_cases h0 : l = []
    · subst h0
      refine (hull_none a cap w).mono ?_
      rintro e w' ⟨v, rfl, ho, hb⟩
      exact ⟨v, [], rfl, .inl ⟨rfl, .inr rfl⟩, ho, hb⟩
    · have hlp : 0 < l.length := List.length_pos_iff.2 h0
      rcases hr with hr | ⟨b, off, rfl, hb, hp⟩
      · exact absurd hr h0
      · by_cases hf : faultN l = 0
        · refine (hull_any b off cap l (l.length - 1) w (by omega) hb hp hf).mono ?_
          rintro e w' ⟨v, is, rfl, hio, ho, hb⟩
          exact ⟨v, cornersN l is, by rw [hf], .inr ⟨hf, hlp, is, hio, rfl⟩, ho, hb⟩
        · refine (hull_fault b off cap l (l.length - 1) w (by omega) (by omega) hb hp hf).mono ?_
          rintro e w' ⟨rfl, hb⟩
          exact ⟨_, [], rfl, .inl ⟨rfl, .inl hf⟩, own_none _ _, hb⟩
theorem hullr_any (a : Option Addr) (cap : Nat) (l : List Pt) (c : List Nat) (w : World) (hr : RawAt w a l) (hA : Ans l c) :
    Calls Tryz.prog 44 #[.slice a l.length cap] w fun e w' => ∃ v, e = .returned (.tuple #[v, .int .i64 (faultN l)]) ∧ w'.ownsRow w.heap.size 3 1 v c.length (c.map toV) ∧ Below w.heap.size w w' := by
  rcases hA with ⟨rfl, hf⟩ | ⟨hf, hlp, is, hio, rfl⟩
  · by_cases h0 : faultN l = 0
    · have : l = [] := hf.resolve_left (fun h => h h0)
      subst this
      refine (rhull_none a cap w).mono ?_
      rintro e w' ⟨rfl, hb⟩
      exact ⟨_, rfl, own_none _ _, hb⟩
    · refine (rhull_fault a cap l w hr h0).mono ?_
      rintro e w' ⟨rfl, hb⟩
      exact ⟨_, rfl, own_none _ _, hb⟩
  · rcases hr with rfl | ⟨b, off, rfl, hb, hp⟩
    · simp at hlp
    · refine (rhull_any b off cap l is (l.length - 1) w (by omega) hb hp hf hio).mono ?_
      rintro e w' ⟨v, rfl, ho, hb⟩
      exact ⟨v, by rw [hf], ho, hb⟩

end Go.Proofs.YtgpapegpdfonpaaGreatDoor
