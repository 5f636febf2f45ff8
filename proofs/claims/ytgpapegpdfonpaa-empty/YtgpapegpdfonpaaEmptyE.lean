/-
  The statement on triangles, walked.
-/
import Derived.Test.YtgpapegpdfonpaaEmptyF
import Derived.Test.YtgpapegpdfonpaaEmptyG
namespace Go.Proofs.Ytgpapegpdfonpaa
set_option linter.unusedVariables false
set_option linter.unusedSimpArgs false
open Go.RowKit

theorem fills_all {b1 b2 : Nat} {v tv : Value} {l : List Pt} {ts : List T3} (w : World) (hl60 : l.length ≤ 60) (hnd : l.Nodup) (hnear : AllNear l) (hown : OwnP w b1 v l)
    (ht : w.ownsRow b2 42 3 tv ts.length (flatT ts)) (hts : TriSpec l ts) (htl : ts.length ≤ 4000) :
    Calls Try.prog 16 #[v, tv] w fun e w' => e = .returned (.bool true) ∧ Below w.heap.size w w' := by
  by_cases h0 : l = []
  · subst h0
    have := spec_nil hts
    subst this
    obtain ⟨va, vc, rfl⟩ := OwnP.any hown
    obtain ⟨ta, tc, rfl⟩ := own_any ht
    exact fills_none va vc ta tc w
  · have hlp : 0 < l.length := List.length_pos_iff.2 h0
    rcases OwnP.shape hown with ⟨_, e⟩ | ⟨g, gc, rfl⟩
    · exact absurd e h0
    obtain ⟨is, hio, ⟨hall, e⟩ | ⟨t, p, q, r, BS, hm, hp⟩⟩ := hts
    · subst e
      obtain ⟨ta, tc, rfl⟩ := own_any ht
      refine fills_flat g gc ta tc l w hl60 hnd hnear hlp (OwnP.lt hown).1 (OwnP.pts hown) fun is' hio' => ?_
      by_cases h2 : 2 ≤ l.length
      · have A := arr_of hio' hnd
        rcases Nat.lt_or_ge 2 (cornersN l is').length with h | h
        · exfalso
          have ht := A.turn h 0 (by omega)
          have := on_line hio hnd hall h2 (A.lt 0 (by omega)) (A.lt ((0 + 1) % (cornersN l is').length) (Nat.mod_lt _ (by omega))) (A.lt ((0 + 2) % (cornersN l is').length) (Nat.mod_lt _ (by omega)))
          unfold cp at ht
          omega
        · exact fan_le _ _ h
      · have A := arr_of hio' hnd
        exact fan_le _ _ (by have := A.le; omega)
    · have hF : ∀ is', InOrder l is' → FillOk l (cp l (cornersN l is')) (cornersN l is').length ts := fun is' hio' =>
        fill_ok hio hnd hnear (arr_of hio' hnd) (cornersN_nodup hio' hnd) BS hm hp
      have hne : ts ≠ [] := by
        intro e
        obtain ⟨t, ht, _⟩ := (hF is hio).used 0 hlp
        rw [e] at ht
        simp at ht
      obtain ⟨gt, ct, rfl⟩ := tri_shape ht hne
      obtain ⟨t1, lt1, _⟩ := tris_of ht
      exact fills_real g gc gt ct l ts w hl60 hnd hnear hlp (OwnP.lt hown).1 (OwnP.pts hown) lt1 t1 htl hF

theorem l3_at (w : World) : PtsAt (w.alloc (.cells #[.int .i64 0, .int .i64 0, .int .i64 4, .int .i64 0, .int .i64 0, .int .i64 3] 23)) w.heap.size 0 l3 := by
  intro j hj
  have : j = 0 ∨ j = 1 ∨ j = 2 := by simp [l3] at hj; omega
  rcases this with rfl | rfl | rfl <;> exact ⟨by rw [World.cell?_alloc_at _ _ _ _ (by simp)]; rfl, by rw [World.cell?_alloc_at _ _ _ _ (by simp)]; rfl⟩

set_option maxHeartbeats 4000000 in
set_option maxRecDepth 100000 in
theorem empty_walk (a : Option Addr) (cap : Nat) (rs : List Pt) (step : Int) (w : World) (hm : rs.length ≤ maxLen) (hr : RawAt w a rs) (hfit : Fits rs) (t1 : -9223372036854775808 ≤ step) (t2 : step ≤ 9223372036854775807) :
    Calls Try.prog 6 #[.slice a rs.length cap, .int .i64 step] w fun e w' => e = .returned (.bool true) ∧ Below w.heap.size w w' := by
  have HC := cloud_any a cap rs step w hm hr hfit t1 t2
  have heq := eqTri
  clear hr hfit hm
  generalize rs.length = rn at *
  go_enter Try.func6, Try.ntmps6
  go_upto_region 2 with (go_at_call 12; refine HC.mono ?_; rintro e w1 ⟨v, l, rfl, hl60, hnd, hnear, hown, hb1⟩)
  have T1 := triang_all w1 hl60 hnd hnear hown
  go_upto_region 3 with (go_at_call 15; refine T1.mono ?_; rintro e w2 ⟨tv, ts, rfl, ho2, hs2, hl2, hb2⟩)
  have F1 := fills_all w2 hl60 hnd hnear (OwnP.below hown hb2) ho2 hs2 hl2
  go_upto_region 4 with (go_at_call 16; refine F1.mono ?_; rintro e w3 ⟨rfl, hb3⟩)
  have hb23 := hb2.trans (hb3.mono hb2.size)
  have T2 := triang_all w3 hl60 hnd hnear (OwnP.below hown hb23)
  go_upto_region 5 with (go_at_call 15; refine T2.mono ?_; rintro e w4 ⟨uv, us, rfl, ho4, hs4, hl4, hb4⟩)
  have hus := hs4.unique hnd hs2
  subst hus
  have A1 := alike_all w4 hl4 (own_belowS ho2 (hb3.trans (hb4.mono hb3.size))) ho4
  go_upto_region 6 with (go_at_call 17; refine A1.mono ?_; rintro e w5 ⟨rfl, hb5⟩)
  have hbw := ((hb1.trans (hb23.mono hb1.size)).trans (hb4.mono (hb1.trans (hb23.mono hb1.size)).size))
  have hbw5 := hbw.trans (hb5.mono hbw.size)
  have T3 := triang_any w5.heap.size 0 3 l3 2 (w5.alloc (.cells #[.int .i64 0, .int .i64 0, .int .i64 4, .int .i64 0, .int .i64 0, .int .i64 3] 23)) rfl (by simp) (l3_at w5) (fault_ok (by decide) l3_near l3_nodup)
  have e3 : l3.length = 3 := rfl
  rw [e3] at T3
  clear T1 F1 T2 A1 HC hown ho2 ho4 hs2 hs4 hb2 hb3 hb4 hb5 hb23 hbw hnear hnd e3
  go_upto_region 7 with (go_at_call 15; refine T3.mono ?_; rintro e w6 ⟨kv, ks, rfl, ho6, hs6, hl6, hb6⟩)
  have hks := tri3 hs6
  subst hks
  obtain ⟨gk, ck, rfl⟩ := tri_shape ho6 (by simp)
  obtain ⟨tk, lk, _⟩ := tris_of ho6
  obtain ⟨c0, c1, c2⟩ := tk 0 (by simp)
  have hb7 : Below w.heap.size w w6 := hbw5.trans (((below1 w5 (.cells #[.int .i64 0, .int .i64 0, .int .i64 4, .int .i64 0, .int .i64 0, .int .i64 3] 23)).trans (hb6.mono (by simp))).mono hbw5.size)
  simp only [Nat.zero_mul, Nat.zero_add, List.getD_cons_zero] at c0 c1 c2
  simp only [List.length_cons, List.length_nil, Nat.zero_add]
  clear ho6 tk hs6 T3 hb6
  go_wp2
  go_ret
  exact ⟨rfl, hb7⟩
end Go.Proofs.Ytgpapegpdfonpaa
