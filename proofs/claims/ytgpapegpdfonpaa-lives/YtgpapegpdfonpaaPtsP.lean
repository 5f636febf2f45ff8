/-
  The mesh's own calls: NewMesh, Insert, Remove, Triangles, Locate, Nearest.
-/
import Derived.Test.YtgpapegpdfonpaaPtsE
import Derived.Test.YtgpapegpdfonpaaPtsF
import Derived.Test.YtgpapegpdfonpaaPtsN
namespace Go.Proofs.Ytgpapegpdfonpaa
set_option linter.unusedVariables false
set_option linter.unusedSimpArgs false
open Go.RowKit
attribute [local go_sem ↓] Go.wp_at_zero Go.wp_at_succ

set_option maxHeartbeats 2000000 in
theorem mnew_any (w : World) : Calls Try.prog 18 #[] w fun e w' => e = .returned (.pointer (some ⟨w.heap.size, 0, none⟩)) ∧ PRow w' w.heap.size [] [] 0 (.slice none 0 0) (.slice none 0 0) ∧ Below w.heap.size w w' := by
  have HR : Hid (PRow (w.alloc (.cells #[.slice none 0 0, .slice none 0 0, .int .i64 0] 76)) w.heap.size [] [] 0 (.slice none 0 0) (.slice none 0 0) ∧ Below w.heap.size w (w.alloc (.cells #[.slice none 0 0, .slice none 0 0, .int .i64 0] 76))) :=
    ⟨⟨heap_last _ _, ⟨rfl, .inl ⟨rfl, rfl⟩⟩, ⟨rfl, .inl ⟨rfl, rfl⟩⟩⟩, below1 _ _⟩
  go_enter Try.func18, Try.ntmps18
  go_wp2
  go_ret
  exact ⟨rfl, HR.out⟩

theorem InsP.pre {w W w' : World} {m : Nat} {pts : List Pt} {nums : List Int} {ever : Nat} {vA vN : Value} {p : Pt} {n : Int} {q : Nat} (hb : Below w.heap.size w W) (h : InsP (W.drewN q) w' m pts nums ever vA vN p n) : InsP w w' m pts nums ever vA vN p n := by
  rcases h with ⟨h1, h2, h3⟩ | ⟨h1, h2, vA', vN', h3, h4, h5, h6⟩
  · exact .inl ⟨h1, h2, hb.trans ((⟨h3.os, h3.tape, h3.output, h3.size, h3.block⟩ : Below W.heap.size W w').mono hb.size)⟩
  · have hs : w.heap.size ≤ (W.drewN q).heap.size := hb.size
    refine .inr ⟨h1, h2, vA', vN', h3, (Chg.of_below hb).trans (⟨h4.os, h4.tape, h4.output, h4.size, h4.far⟩ : Chg (chgI m vA vN) W w') fun _ _ g => g, fun g hg => ?_, fun g hg => ?_⟩
    · rcases h5 g hg with h | h
      · exact .inl h
      · exact .inr (Nat.le_trans hs h)
    · rcases h6 g hg with h | h
      · exact .inl h
      · exact .inr (Nat.le_trans hs h)
section
variable (m : Nat) (pts : List Pt) (nums : List Int) (ever : Nat) (vA vN : Value)
set_option maxRecDepth 100000 in
set_option maxHeartbeats 4000000 in
theorem minsert_any (px py : Int) (w : World) (H : PRow w m pts nums ever vA vN) (hOk : MOk pts nums ever) (hev : ever ≤ 2000000000000) :
    Calls Try.prog 32 #[.pointer (some ⟨m, 0, none⟩), .agg #[.int .i64 px, .int .i64 py]] w fun e w' => ∃ n, e = .returned (.tuple #[.int .i64 n, .int .i64 (insE pts (px, py))]) ∧ InsP w w' m pts nums ever vA vN (px, py) n := by
  have hb0 := below1 w (.cells #[.int .i64 px, .int .i64 py] 23)
  have x0 : (w.alloc (.cells #[.int .i64 px, .int .i64 py] 23)).cell? ⟨w.heap.size, 0, none⟩ = some (.int .i64 px) := by rw [World.cell?_alloc_at _ _ _ _ (by simp)]; rfl
  have x1 : (w.alloc (.cells #[.int .i64 px, .int .i64 py] 23)).cell? ⟨w.heap.size, 1, none⟩ = some (.int .i64 py) := by rw [World.cell?_alloc_at _ _ _ _ (by simp)]; rfl
  have H1 := H.below hb0
  have HC : ∀ q, Calls Try.prog 54 #[.pointer (some ⟨m, 0, none⟩), .agg #[.int .i64 px, .int .i64 py]] ((w.alloc (.cells #[.int .i64 px, .int .i64 py] 23)).drewN q) _ := fun q => pinsert_any m pts nums ever vA vN px py _ ⟨H1.blk, H1.ownA, H1.ownN⟩ hOk hev
  have HB0 : Hid (Below w.heap.size w (w.alloc (.cells #[.int .i64 px, .int .i64 py] 23))) := hb0
  have hm := H.lt
  clear H H1 hOk
  generalize insE pts (px, py) = ie at *
  go_enter Try.func32, Try.ntmps32
  go_upto_region 1 with fail
  generalize w.alloc (.cells #[.int .i64 px, .int .i64 py] 23) = W at *
  go_region_with (go_at_call 54; refine (HC 1).mono ?_; rintro e w1 ⟨n, rfl, hI⟩)
  all_goals go_wp2
  all_goals go_ret2
  all_goals exact ⟨n, rfl, hI.pre hb0⟩
set_option maxRecDepth 100000 in
set_option maxHeartbeats 4000000 in
theorem mremove_any (n : Int) (w : World) (H : PRow w m pts nums ever vA vN) (hOk : MOk pts nums ever) :
    Calls Try.prog 33 #[.pointer (some ⟨m, 0, none⟩), .int .i64 n] w fun e w' => ∃ r, e = .returned (.int .i64 r) ∧ RemP w w' m pts nums ever vA vN n r := by
  have HC := premove_any m pts nums ever vA vN n w H hOk
  clear H hOk
  go_enter Try.func33, Try.ntmps33
  go_wp2_with (first | (go_at_call 55; refine HC.mono ?_; rintro e w1 ⟨r, rfl, hI⟩))
  go_ret
  exact ⟨r, rfl, hI⟩
set_option maxRecDepth 100000 in
set_option maxHeartbeats 4000000 in
theorem mtris_any (w : World) (H : PRow w m pts nums ever vA vN) (hOk : MOk pts nums ever) :
    Calls Try.prog 34 #[.pointer (some ⟨m, 0, none⟩)] w fun e w' =>
      ∃ v ts, e = .returned v ∧ w'.ownsRow w.heap.size 42 3 v ts.length (flatT (ts.map (numT nums))) ∧ TriSpec pts ts ∧ ts.length ≤ 4000 ∧ Below w.heap.size w w' := by
  have HC := pTris_any m pts nums ever vA vN w H hOk
  clear H hOk
  go_enter Try.func34, Try.ntmps34
  go_wp2_with (first | (go_at_call 56; refine HC.mono ?_; rintro e w1 ⟨v, ts, rfl, hI⟩))
  go_ret
  exact ⟨v, ts, rfl, hI⟩
end
end Go.Proofs.Ytgpapegpdfonpaa
