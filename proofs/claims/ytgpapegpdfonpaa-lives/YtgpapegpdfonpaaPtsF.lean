/-
  mesh.Points.Remove, walked.
-/
import Derived.Test.YtgpapegpdfonpaaPtsD
import Derived.Test.YtgpapegpdfonpaaPtsC
namespace Go.Proofs.Ytgpapegpdfonpaa
set_option linter.unusedVariables false
set_option linter.unusedSimpArgs false
open Go.RowKit
attribute [local go_sem ↓] Go.wp_at_zero Go.wp_at_succ

/-! ### what is known while a point is taken out -/
def valsX (m : Nat) (vA vN : Value) (i : Nat) : Nat → Option Value
  | 0 => some (.pointer (some ⟨m, 0, none⟩))
  | 1 => some (.pointer (some ⟨m, 0, none⟩))
  | 2 => some (.pointer (some ⟨m, 0, none⟩))
  | 3 => some (.pointer (some ⟨m, 0, none⟩))
  | 4 => some (.pointer (some ⟨m, 0, none⟩))
  | 5 => some vA
  | 6 => some (.int .i64 (i : Int))
  | 7 => some (.int .i64 (i : Int))
  | 8 => some (.int .i64 ((i : Int) + 1))
  | 10 => some (.pointer (some ⟨m, 0, none⟩))
  | 11 => some (.pointer (some ⟨m, 0, none⟩))
  | 12 => some (.pointer (some ⟨m, 1, none⟩))
  | 13 => some vN
  | 14 => some (.int .i64 (i : Int))
  | 15 => some (.int .i64 (i : Int))
  | 16 => some (.int .i64 ((i : Int) + 1))
  | 18 => some (.pointer (some ⟨m, 0, none⟩))
  | 19 => some (.pointer (some ⟨m, 0, none⟩))
  | 21 => some (.pointer (some ⟨m, 0, none⟩))
  | 22 => some (.pointer (some ⟨m, 1, none⟩))
  | _ => none
/-- a row that loses one -/
def Fdl (T : TypeId) (s : Nat) (v v' : Value) (n n' : Nat) (xs xs' : List Value) (b : Bool) (x : Value) (w : World) : Prop :=
  (b = true → x = v' ∧ w.ownsRow 0 T s v' n' xs') ∧ (b = false → w.ownsRow 0 T s v n xs)
theorem Fdl.keep {w w' : World} {T : TypeId} {s n n' : Nat} {v v' x : Value} {xs xs' : List Value} {b : Bool} (h : Fdl T s v v' n n' xs xs' b x w) (k : KeepsT T w w') : Fdl T s v v' n n' xs xs' b x w' :=
  ⟨fun e => ⟨(h.1 e).1, k.own (h.1 e).2⟩, fun e => k.own (h.2 e)⟩
structure RemI (V : World) (m : Nat) (vA vN vA' vN' : Value) (pts : List Pt) (nums : List Int) (ever i : Nat) (L : Nat → Bool) (σ : Nat → Value) (w : World) : Prop where
  val : ∀ j v, valsX m vA vN i j = some v → L j = true → σ j = v
  fA : Fdl 23 2 vA vA' pts.length (pts.eraseIdx i).length (cellsP pts) (cellsP (pts.eraseIdx i)) (L 9) (σ 9) w
  fN : Fdl 3 1 vN vN' nums.length (nums.eraseIdx i).length (nums.map (.int .i64)) ((nums.eraseIdx i).map (.int .i64)) (L 17) (σ 17) w
  fM : w.heap[m]? = some (.cells #[if L 20 then vA' else vA, if L 23 then vN' else vN, .int .i64 (ever : Int)] 76 (0, 0))
  chg : Chg (chgI m vA vN) V w
section
variable {V w w' : World} {m : Nat} {vA vN vA' vN' : Value} {pts : List Pt} {nums : List Int} {ever i : Nat} {L : Nat → Bool} {σ : Nat → Value} {o : Nat} {v : Value}
theorem RemI.stepV (h : RemI V m vA vN vA' vN' pts nums ever i L σ w) (hv : valsX m vA vN i o = some v) : RemI V m vA vN vA' vN' pts nums ever i (fun j => if j = o then true else L j) (fun j => if j = o then v else σ j) w := by
  have ne : ∀ j, valsX m vA vN i j = none → j ≠ o := fun j hj e => by rw [e, hv] at hj; cases hj
  have n9 := ne 9 rfl
  have n17 := ne 17 rfl
  have n20 := ne 20 rfl
  have n23 := ne 23 rfl
  refine ⟨fun j u hj hl => ?_, ?_, ?_, ?_, h.chg⟩
  · by_cases e : j = o
    · subst e; rw [hv] at hj; cases hj; simp
    · simp only [if_neg e] at hl ⊢; exact h.val j u hj hl
  · simp only [if_neg n9]; exact h.fA
  · simp only [if_neg n17]; exact h.fN
  · simp only [if_neg n20, if_neg n23]; exact h.fM
theorem RemI.stepW (h : RemI V m vA vN vA' vN' pts nums ever i L σ w) (hv : valsX m vA vN i o = none)
    (fA : Fdl 23 2 vA vA' pts.length (pts.eraseIdx i).length (cellsP pts) (cellsP (pts.eraseIdx i)) (if 9 = o then true else L 9) (if 9 = o then v else σ 9) w')
    (fN : Fdl 3 1 vN vN' nums.length (nums.eraseIdx i).length (nums.map (.int .i64)) ((nums.eraseIdx i).map (.int .i64)) (if 17 = o then true else L 17) (if 17 = o then v else σ 17) w')
    (fM : w'.heap[m]? = some (.cells #[if (if 20 = o then true else L 20) = true then vA' else vA, if (if 23 = o then true else L 23) = true then vN' else vN, .int .i64 (ever : Int)] 76 (0, 0)))
    (hc : Chg (chgI m vA vN) w w') : RemI V m vA vN vA' vN' pts nums ever i (fun j => if j = o then true else L j) (fun j => if j = o then v else σ j) w' := by
  refine ⟨fun j u hj hl => ?_, fA, fN, fM, h.chg.trans hc fun _ _ g => g⟩
  have e : j ≠ o := fun e => by rw [e, hv] at hj; cases hj
  simp only [if_neg e] at hl ⊢; exact h.val j u hj hl
theorem RemI.cells (h : RemI V m vA vN vA' vN' pts nums ever i L σ w) : w.cell? ⟨m, 0, none⟩ = some (if L 20 then vA' else vA) ∧ w.cell? ⟨m, 1, none⟩ = some (if L 23 then vN' else vN) ∧ ∀ j, w.frozen? ⟨m, j, none⟩ = false := by
  have hb := h.fM
  simp [World.cell?, World.frozen?, hb]
end
theorem run_addI (w : World) (x y : Operand) (k : Nat) (h : k ≤ 1000000) : Sem.run Try.prog (do eqGuard .add 3 x y (.int .i64 (k : Int)) (.int .i64 1); binOp .add 3 (.int .i64 (k : Int)) (.int .i64 1)) w = .ok (.int .i64 ((k : Int) + 1)) w := by
  have e : IntKind.i64.wrap ((k : Int) + 1) = (k : Int) + 1 := wrap_id (by omega) (by omega)
  go_simp

/-- what Remove leaves -/
def RemP (w w' : World) (m : Nat) (pts : List Pt) (nums : List Int) (ever : Nat) (vA vN : Value) (n e : Int) : Prop :=
  (n ∉ nums ∧ e = 4 ∧ Below w.heap.size w w') ∨
  (n ∈ nums ∧ e = 0 ∧ ∃ i, i < nums.length ∧ nums.getD i 0 = n ∧ ∃ vA' vN', PRow w' m (pts.eraseIdx i) (nums.eraseIdx i) ever vA' vN' ∧ Chg (chgI m vA vN) w w' ∧ (∀ g, vA'.ownBlock = some g → vA.ownBlock = some g) ∧ (∀ g, vN'.ownBlock = some g → vN.ownBlock = some g))
set_option maxRecDepth 100000 in
set_option maxHeartbeats 8000000 in
theorem premove_any (m : Nat) (pts : List Pt) (nums : List Int) (ever : Nat) (vA vN : Value) (n : Int) (w : World) (H : PRow w m pts nums ever vA vN) (hOk : MOk pts nums ever) :
    Calls Try.prog 55 #[.pointer (some ⟨m, 0, none⟩), .int .i64 n] w fun e w' => ∃ r, e = .returned (.int .i64 r) ∧ RemP w w' m pts nums ever vA vN n r := by
  have hle := hOk.le
  have hn60 : nums.length ≤ 60 := by have := hOk.len; omega
  have HLN : Hid (pts.length = nums.length) := hOk.len
  have HH : Hid (PRow w m pts nums ever vA vN) := H
  obtain ⟨pa, pc, rfl⟩ := ownS_any H.ownA
  obtain ⟨na, nc, rfl⟩ := ownS_any H.ownN
  have HNA : Hid (NumsAt w na nums) := NumsAt.of_own H.ownN
  have HIN : Hid (nums.Pairwise (· < ·)) := hOk.inc
  have d1 := H.cells.2.1
  have hm := H.lt
  clear H hOk
  by_cases hmem : n ∈ nums
  · have hdt : decide (n ∈ nums) = true := decide_eq_true hmem
    have HM : Hid (n ∈ nums) := hmem
    clear hmem
    go_enter Try.func55, Try.ntmps55
    go_wp2_with (go_at_call 73; refine (bsearch_any _ _ nums n _ hn60 HNA.out HIN.out).mono ?_; rintro e w1 ⟨i, rfl, hi, hb1⟩; rw [hdt])
    obtain ⟨hin, hie⟩ := hi HM.out
    have H1 := HH.out.below hb1
    have HB1 : Hid (Below w.heap.size w w1) := hb1
    have HI : Hid (i < nums.length ∧ nums.getD i 0 = n) := ⟨hin, hie⟩
    have hip : i < pts.length := by rw [HLN.out]; exact hin
    -- rows that are not empty lie in blocks
    obtain ⟨gA, rfl, hgA, _⟩ := ownS_place H1.ownA (by omega)
    obtain ⟨gN, rfl, hgN, _⟩ := ownS_place H1.ownN (by omega)
    have HH1 : Hid (PRow w1 m pts nums ever (.slice (some ⟨gA, 0, none⟩) pts.length pc) (.slice (some ⟨gN, 0, none⟩) nums.length nc)) := H1
    have hi60 : i ≤ 1000000 := by omega
    clear hi hie H1 hb1 d1 HNA hgA hgN
    have HV : Hid (RemI w1 m (.slice (some ⟨gA, 0, none⟩) pts.length pc) (.slice (some ⟨gN, 0, none⟩) nums.length nc) (.slice (some ⟨gA, 0, none⟩) (pts.length - 1) pc) (.slice (some ⟨gN, 0, none⟩) (nums.length - 1) nc) pts nums ever i (fun _ => false) (fun _ => undef) w1.drew) :=
      ⟨(fun _ _ _ h => by cases h), ⟨(fun h => by cases h), fun _ => HH1.out.ownA⟩, ⟨(fun h => by cases h), fun _ => HH1.out.ownN⟩, HH1.out.blk, ⟨rfl, rfl, rfl, Nat.le_refl _, fun _ _ _ => rfl⟩⟩
    refine wp_region_inv (m := 24) (by kernel_rfl) (by kernel_rfl) (dsts := [some 18, some 19, some 20, some 21, some 22, some 23, some 24, some 25, some 26, some 27, some 28, some 29, some 30, some 31, some 32, some 33, some 34, some 35, some 36, some 37, none, some 38, some 39, none]) rfl (by kernel_rfl) (l := []) rfl (RemI w1 m (.slice (some ⟨gA, 0, none⟩) pts.length pc) (.slice (some ⟨gN, 0, none⟩) nums.length nc) (.slice (some ⟨gA, 0, none⟩) (pts.length - 1) pc) (.slice (some ⟨gN, 0, none⟩) (nums.length - 1) nc) pts nums ever i) HV.out ?_ ?_
    · refine flS (flS (flS (flS (flS (flS (flS (flS (flS (flS (flS (flS (flS (flS (flS (flS (flS (flS (flS (flS (flS (flS (flS (flS fl0 ?_) ?_) ?_) ?_) ?_) ?_) ?_) ?_) ?_) ?_) ?_) ?_) ?_) ?_) ?_) ?_) ?_) ?_) ?_) ?_) ?_) ?_) ?_) ?_
      all_goals intro Ls σ wx hS hp hdn hun
      · exact (gives_move (x := .tmp 0) rfl rfl (hS.stepV (o := 0) rfl)).toS
      · exact (gives_move (x := .tmp 0) rfl rfl (hS.stepV (o := 1) rfl)).toS
      · exact (gives_move (x := .tmp 0) rfl rfl (hS.stepV (o := 2) rfl)).toS
      · exact (gives_nil (x := .tmp 20) rfl (show σ 2 = _ from hS.val 2 _ rfl (hp 2 rfl)) (hS.stepV (o := 3) rfl)).toS
      · exact (gives_field (T := 74) (x := .tmp 21) (f := 0) rfl (show σ 3 = _ from hS.val 3 _ rfl (hp 3 rfl)) (run_field_P0 _ _) (hS.stepV (o := 4) rfl)).toS
      · have n20 : Ls 20 = false := by
          cases hl : Ls 20 with
          | false => rfl
          | true => have := (hdn 9 5 (hdn 20 9 hl rfl) rfl); rw [hun] at this; cases this
        have c := hS.cells.1
        rw [n20] at c
        exact (gives_load (T := 28) (x := .tmp 22) rfl (show σ 4 = _ from hS.val 4 _ rfl (hp 4 rfl)) (run_load_pts _ _ _ _ c) (hS.stepV (o := 5) rfl)).toS
      · exact (gives_move (x := .tmp 5) rfl rfl (hS.stepV (o := 6) rfl)).toS
      · exact (gives_move (x := .tmp 5) rfl rfl (hS.stepV (o := 7) rfl)).toS
      · exact (gives_bin (b := .add) (T := 3) (T' := 3) (x := .tmp 25) (y := .const (.int .i64 1)) rfl (show σ 7 = _ from hS.val 7 _ rfl (hp 7 rfl)) rfl (run_addI _ _ _ _ hi60) (hS.stepV (o := 8) rfl)).toS
      · have n20 : Ls 20 = false := by
          cases hl : Ls 20 with
          | false => rfl
          | true => have := (hdn 20 9 hl rfl); rw [hun] at this; cases this
        have n23 : Ls 23 = false := by
          cases hl : Ls 23 with
          | false => rfl
          | true => have := (hdn 20 9 (hdn 23 20 hl rfl) rfl); rw [hun] at this; cases this
        have h5' : σ 5 = _ := hS.val 5 _ rfl (hp 5 rfl)
        have h6' : σ 6 = _ := hS.val 6 _ rfl (hp 6 rfl)
        have h8' : σ 8 = _ := hS.val 8 _ rfl (hp 8 rfl)
        have ho := hS.fA.2 hun
        obtain ⟨cA, hcA⟩ := ownS_typ ho rfl
        refine (gives_call (f := 74) (args := [.slice (some ⟨gA, 0, none⟩) pts.length pc, .int .i64 (i : Int), .int .i64 ((i : Int) + 1)]) rfl rfl (by show [σ 5, σ 6, σ 8] = _; rw [h5', h6', h8']) (by go_simp) ((delP_any gA pc i pts wx ho hle hip).mono ?_)).toS
        rintro e w' ⟨rfl, ho', hc⟩
        refine ⟨_, rfl, hS.stepW (o := 9) rfl ?_ ?_ ?_ ?_⟩
        · exact ⟨fun _ => ⟨rfl, ho'⟩, fun h => by simp at h⟩
        · exact hS.fN.keep (keepsT_chg hc hcA (by decide))
        · exact keepsT_chg hc hcA (by decide) _ _ hS.fM
        · exact hc.mono fun k _ h => by subst h; exact .inr (.inl rfl)
      · exact (gives_move (x := .tmp 0) rfl rfl (hS.stepV (o := 10) rfl)).toS
      · exact (gives_nil (x := .tmp 28) rfl (show σ 10 = _ from hS.val 10 _ rfl (hp 10 rfl)) (hS.stepV (o := 11) rfl)).toS
      · exact (gives_field (T := 74) (x := .tmp 29) (f := 1) rfl (show σ 11 = _ from hS.val 11 _ rfl (hp 11 rfl)) (run_field_P1 _ _) (hS.stepV (o := 12) rfl)).toS
      · have n23 : Ls 23 = false := by
          cases hl : Ls 23 with
          | false => rfl
          | true => have := (hdn 17 13 (hdn 23 17 hl rfl) rfl); rw [hun] at this; cases this
        have c := hS.cells.2.1
        rw [n23] at c
        exact (gives_load (T := 30) (x := .tmp 30) rfl (show σ 12 = _ from hS.val 12 _ rfl (hp 12 rfl)) (run_load_nums _ _ _ _ c) (hS.stepV (o := 13) rfl)).toS
      · exact (gives_move (x := .tmp 5) rfl rfl (hS.stepV (o := 14) rfl)).toS
      · exact (gives_move (x := .tmp 5) rfl rfl (hS.stepV (o := 15) rfl)).toS
      · exact (gives_bin (b := .add) (T := 3) (T' := 3) (x := .tmp 33) (y := .const (.int .i64 1)) rfl (show σ 15 = _ from hS.val 15 _ rfl (hp 15 rfl)) rfl (run_addI _ _ _ _ hi60) (hS.stepV (o := 16) rfl)).toS
      · have h13' : σ 13 = _ := hS.val 13 _ rfl (hp 13 rfl)
        have h14' : σ 14 = _ := hS.val 14 _ rfl (hp 14 rfl)
        have h16' : σ 16 = _ := hS.val 16 _ rfl (hp 16 rfl)
        have ho := hS.fN.2 hun
        obtain ⟨cN, hcN⟩ := ownS_typ ho rfl
        refine (gives_call (f := 75) (args := [.slice (some ⟨gN, 0, none⟩) nums.length nc, .int .i64 (i : Int), .int .i64 ((i : Int) + 1)]) rfl rfl (by show [σ 13, σ 14, σ 16] = _; rw [h13', h14', h16']) (by go_simp) ((delN_any gN nc i nums wx ho hn60 hin).mono ?_)).toS
        rintro e w' ⟨rfl, ho', hc⟩
        refine ⟨_, rfl, hS.stepW (o := 17) rfl ?_ ?_ ?_ ?_⟩
        · exact hS.fA.keep (keepsT_chg hc hcN (by decide))
        · exact ⟨fun _ => ⟨rfl, ho'⟩, fun h => by simp at h⟩
        · exact keepsT_chg hc hcN (by decide) _ _ hS.fM
        · exact hc.mono fun k _ h => by subst h; exact .inr (.inr rfl)
      · exact (gives_nil (x := .tmp 18) rfl (show σ 0 = _ from hS.val 0 _ rfl (hp 0 rfl)) (hS.stepV (o := 18) rfl)).toS
      · exact (gives_field (T := 74) (x := .tmp 36) (f := 0) rfl (show σ 18 = _ from hS.val 18 _ rfl (hp 18 rfl)) (run_field_P0 _ _) (hS.stepV (o := 19) rfl)).toS
      · have n23 : Ls 23 = false := by
          cases hl : Ls 23 with
          | false => rfl
          | true => have := (hdn 23 20 hl rfl); rw [hun] at this; cases this
        have e9 := (hS.fA.1 (hp 9 rfl)).1
        have fM := hS.fM
        rw [hun, n23] at fM
        simp only [Bool.false_eq_true, if_false] at fM
        have st := heap_setCell_same _ m 0 _ _ (.slice (some ⟨gA, 0, none⟩) (pts.length - 1) pc) fM
        have c := hS.cells
        refine gives_store (T := 28) (x := .tmp 37) (y := .tmp 27) rfl (show σ 19 = _ from hS.val 19 _ rfl (hp 19 rfl)) (show σ 9 = _ from e9) (run_store_pts _ _ _ _ _ _ _ c.1 (c.2.2 0)) (hS.stepW (o := 20) rfl ?_ ?_ ?_ ?_)
        · exact hS.fA.keep (keepsT_set fM (by decide))
        · exact hS.fN.keep (keepsT_set fM (by decide))
        · rw [st]; simp [n23]
        · exact ⟨rfl, rfl, rfl, by simp [World.setCell], fun k _ hk => Below.heap_setCell _ _ _ _ fun e => hk (.inl e)⟩
      · exact (gives_nil (x := .tmp 19) rfl (show σ 1 = _ from hS.val 1 _ rfl (hp 1 rfl)) (hS.stepV (o := 21) rfl)).toS
      · exact (gives_field (T := 74) (x := .tmp 38) (f := 1) rfl (show σ 21 = _ from hS.val 21 _ rfl (hp 21 rfl)) (run_field_P1 _ _) (hS.stepV (o := 22) rfl)).toS
      · have h20 : Ls 20 = true := hp 20 rfl
        have e17 := (hS.fN.1 (hp 17 rfl)).1
        have fM := hS.fM
        rw [hun, h20] at fM
        simp only [Bool.false_eq_true, if_false, if_true] at fM
        have st := heap_setCell_same _ m 1 _ _ (.slice (some ⟨gN, 0, none⟩) (nums.length - 1) nc) fM
        have c := hS.cells
        refine gives_store (T := 30) (x := .tmp 39) (y := .tmp 35) rfl (show σ 22 = _ from hS.val 22 _ rfl (hp 22 rfl)) (show σ 17 = _ from e17) (run_store_nums _ _ _ _ _ _ _ c.2.1 (c.2.2 1)) (hS.stepW (o := 23) rfl ?_ ?_ ?_ ?_)
        · exact hS.fA.keep (keepsT_set fM (by decide))
        · exact hS.fN.keep (keepsT_set fM (by decide))
        · rw [st]; simp [h20]
        · exact ⟨rfl, rfl, rfl, by simp [World.setCell], fun k _ hk => Below.heap_setCell _ _ _ _ fun e => hk (.inl e)⟩
    · intro Ls σ wx hS hall
      have h9 := hall 9 (by omega)
      have h17 := hall 17 (by omega)
      have h20 := hall 20 (by omega)
      have h23 := hall 23 (by omega)
      have fM := hS.fM
      rw [h20, h23] at fM
      simp only [if_true] at fM
      have HFIN : Hid (RemP w wx m pts nums ever (.slice (some ⟨gA, 0, none⟩) pts.length pc) (.slice (some ⟨gN, 0, none⟩) nums.length nc) n 0) :=
        .inr ⟨HM.out, rfl, i, HI.out.1, HI.out.2, _, _, ⟨fM, (hS.fA.1 h9).2, (hS.fN.1 h17).2⟩, (Chg.of_below HB1.out).trans hS.chg fun _ _ h => h, fun _ h => h, fun _ h => h⟩
      clear fM hS
      refine ⟨?_⟩
      simp only [lay, Act.put, List.drop_succ_cons, List.drop_zero, List.setIfInBounds_toArray, List.set_cons_succ, List.set_cons_zero]
      go_wp2_with fail
      go_ret
      exact ⟨0, rfl, HFIN.out⟩
  · have hdf : decide (n ∈ nums) = false := decide_eq_false hmem
    have HM : Hid (n ∉ nums) := hmem
    clear hmem
    go_enter Try.func55, Try.ntmps55
    go_wp2_with (go_at_call 73; refine (bsearch_any _ _ nums n _ hn60 HNA.out HIN.out).mono ?_; rintro e w1 ⟨i, rfl, hi, hb1⟩; rw [hdf])
    go_ret
    exact ⟨4, rfl, .inl ⟨HM.out, rfl, hb1⟩⟩
end Go.Proofs.Ytgpapegpdfonpaa
