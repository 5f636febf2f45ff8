/-
  The statement on triangles, walked.
-/
import Derived.Test.YtgpapegpdfonpaaGreatEmptyF
import Derived.Test.YtgpapegpdfonpaaGreatEmptyG
namespace Go.Proofs.YtgpapegpdfonpaaGreat
set_option linter.unusedVariables false
set_option linter.unusedSimpArgs false
open Go.RowKit

theorem fills_all {b1 b2 : Nat} {v tv : Value} {l : List Pt} {ts : List T3} (w : World) (hl60 : l.length ≤ 60) (hnd : l.Nodup) (hnear : AllNear l) (hown : OwnP w b1 v l)
    (ht : w.ownsRow b2 53 3 tv ts.length (flatT ts)) (hts : TriSpec l ts) (htl : ts.length ≤ 4000) :
    Calls Tryz.prog 17 #[v, tv] w fun e w' => e = .returned (.bool true) ∧ Below w.heap.size w w' := by
  by_cases h0 : l = []
  · subst h0
    have := spec_nil hts
    subst this
    obtain ⟨va, vc, rfl⟩ := OwnP.any hown
    obtain ⟨ta, tc, rfl⟩ := own_any ht
    exact fills_none va vc ta tc w
  · have hlp : 0 < l.length := List.length_pos_iff.2 h0
    rcases OwnP.shape hown with ⟨_, e⟩ | ⟨g, gc, rfl⟩
    · exact absurd e h0
    obtain ⟨is, hio, ⟨hall, e⟩ | ⟨t, p, q, r, BS, hm, hp⟩⟩ := hts
    · subst e
      obtain ⟨ta, tc, rfl⟩ := own_any ht
      refine fills_flat g gc ta tc l w hl60 hnd hnear hlp (OwnP.lt hown).1 (OwnP.pts hown) fun is' hio' => ?_
      by_cases h2 : 2 ≤ l.length
      · have A := arr_of hio' hnd
        rcases Nat.lt_or_ge 2 (cornersN l is').length with h | h
        · exfalso
          have ht := A.turn h 0 (by omega)
          have := on_line hio hnd hall h2 (A.lt 0 (by omega)) (A.lt ((0 + 1) % (cornersN l is').length) (Nat.mod_lt _ (by omega))) (A.lt ((0 + 2) % (cornersN l is').length) (Nat.mod_lt _ (by omega)))
          unfold cp at ht
          omega
        · exact fan_le _ _ h
      · have A := arr_of hio' hnd
        exact fan_le _ _ (by have := A.le; omega)
    · have hF : ∀ is', InOrder l is' → FillOk l (cp l (cornersN l is')) (cornersN l is').length ts := fun is' hio' =>
        fill_ok hio hnd hnear (arr_of hio' hnd) (cornersN_nodup hio' hnd) BS hm hp
      have hne : ts ≠ [] := by
        intro e
        obtain ⟨t, ht, _⟩ := (hF is hio).used 0 hlp
        rw [e] at ht
        simp at ht
      obtain ⟨gt, ct, rfl⟩ := tri_shape ht hne
      obtain ⟨t1, lt1, _⟩ := tris_of ht
      exact fills_real g gc gt ct l ts w hl60 hnd hnear hlp (OwnP.lt hown).1 (OwnP.pts hown) lt1 t1 htl hF

theorem l3_at (w : World) : PtsAt (w.alloc (.cells #[.int .i64 0, .int .i64 0, .int .i64 4, .int .i64 0, .int .i64 0, .int .i64 3] 32)) w.heap.size 0 l3 := by
  intro j hj
  have : j = 0 ∨ j = 1 ∨ j = 2 := by simp [l3] at hj; omega
  rcases this with rfl | rfl | rfl <;> exact ⟨by rw [World.cell?_alloc_at _ _ _ _ (by simp)]; rfl, by rw [World.cell?_alloc_at _ _ _ _ (by simp)]; rfl⟩

end Go.Proofs.YtgpapegpdfonpaaGreat
