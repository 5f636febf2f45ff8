/-
  Package text: a line of numbers.
-/
import Derived.Test.YtgpapegpdfonpaaGreatDoorTextB
import Derived.Deep.CutRange
import Derived.Deep.DeepCutAuto
import Derived.Deep.CutBlock
namespace Go.Proofs.YtgpapegpdfonpaaGreatDoor
set_option linter.unusedVariables false
set_option linter.unusedSimpArgs false
open Go.RowKit
attribute [local go_sem ↓] Go.wp_at_zero Go.wp_at_succ

theorem F3.below {w w' : World} {F : Nat} {ns : List Int} (h : F3 w F ns) (hb : Below w.heap.size w w') : F3 w' F ns := (hb.block F (lt_some h)).trans h
theorem F3.cells {w : World} {F : Nat} {ns : List Int} (h : F3 w F ns) : w.cell? ⟨F, 0, none⟩ = some (.int .i64 (ns.getD 0 0)) ∧ w.cell? ⟨F, 1, none⟩ = some (.int .i64 (ns.getD 1 0)) ∧ w.cell? ⟨F, 2, none⟩ = some (.int .i64 (ns.getD 2 0)) ∧ ∀ j, w.frozen? ⟨F, j, none⟩ = false :=
  ⟨cell_of_heap h 0, cell_of_heap h 1, cell_of_heap h 2, fun j => frozen_of_heap h j⟩
/-- what numbers tells of a line -/
def numsP (lo hi : Int) (k : Nat) (l : List UInt8) (x y z : Int) : Prop := ∀ ns, numsS lo hi k l = some ns → x = ns.getD 0 0 ∧ y = ns.getD 1 0 ∧ z = ns.getD 2 0
/-- how far a line is read -/
def NumsAtI (lo hi : Int) (k : Nat) (l : List UInt8) (i : Nat) (li : List UInt8) (ns : List Int) : Prop :=
  ns.length = i ∧ li.length ≤ l.length ∧ ((i = k ∧ numsS lo hi k l = some ns) ∨ (i < k ∧ numsS lo hi k l = (numsS lo hi (k - i) li).map (ns ++ ·)))
set_option maxRecDepth 100000 in
set_option maxHeartbeats 4000000 in
theorem numbers_any (l : List UInt8) (hl : l.length ≤ 281474976710656) (k : Nat) (hk0 : 0 < k) (hk : k ≤ 3) (lo hi : Int) (w : World) (V : Vars w) :
    Calls Tryz.prog 145 #[bs l, .int .i64 k, .int .i64 lo, .int .i64 hi] w fun e w' => ∃ x y z, e = .returned (.tuple #[.agg #[.int .i64 x, .int .i64 y, .int .i64 z], .bool (numsS lo hi k l).isSome]) ∧ numsP lo hi k l x y z ∧ Below w.heap.size w w' := by
  have HV := Lib.hid V
  have HK := Lib.hid (And.intro hk0 hk)
  have HL := Lib.hid hl
  have yk : IntKind.i64.wrap ((k : Int) - 1) = (k : Int) - 1 := wrap_id (by omega) (by omega)
  clear V hk0 hk hl
  go_enter Tryz.func145, Tryz.ntmps145
  go_wp2_with fail
  generalize hW : (w.alloc (.cells #[.int .i64 0, .int .i64 0, .int .i64 0] 178)).alloc (.cells #[.int .i64 0, .int .i64 0, .int .i64 0] 178) = W
  have hb0 : Below w.heap.size w W := by rw [← hW]; exact below2 _ _ _
  have hF0 : F3 W (w.heap.size + 1) [] := by
    rw [← hW]; unfold F3
    have := heap_alloc_new (w.alloc (.cells #[.int .i64 0, .int .i64 0, .int .i64 0] 178)) (.cells #[.int .i64 0, .int .i64 0, .int .i64 0] 178)
    simpa using this
  have hR0 : F3 W w.heap.size [] := by
    rw [← hW]; unfold F3
    rw [Below.heap_alloc _ _ _ (by simp)]
    exact heap_alloc_new _ _
  have HB0 := Lib.hid hb0
  have HF0 := Lib.hid (And.intro hF0 hR0)
  clear hW hb0 hF0 hR0
  generalize hR : w.heap.size = R at *
  have HR := Lib.hid hR
  clear hR
  generalize hF : R + 1 = F at *
  have HF := Lib.hid hF
  clear hF
  go_loopw [0, 11, 12, 13, 14, 16] (fun s0 _ _ _ _ s16 wr => ∃ (i : Nat) (li : List UInt8) (ns : List Int), i ≤ k ∧ s0 = bs li ∧ s16 = .int .i64 i ∧ NumsAtI lo hi k l i li ns ∧ F3 wr F ns ∧ F3 wr R [] ∧ Below R w wr) (fun _ _ _ _ _ s16 _ => k - (intOf s16).toNat)
  case atStart => exact ⟨0, l, [], Nat.zero_le _, rfl, rfl, ⟨rfl, Nat.le_refl _, .inr ⟨HK.out.1, by simp⟩⟩, HF0.out.1, HF0.out.2, HB0.out⟩
  case round =>
    obtain ⟨i, li, ns, hik, rfl, rfl, hN, hF3, hR3, hbr⟩ := hrel
    by_cases hlt : i < k
    · obtain ⟨n1, n2, n3⟩ := hN
      have y1 : (i : Int) < (k : Int) := by omega
      have hk3 := HK.out.2
      have hlL := HL.out
      have hS : Hid (numsS lo hi k l = (numsS lo hi (k - i) li).map (ns ++ ·)) := by
        rcases n3 with ⟨h, _⟩ | ⟨_, h⟩
        · omega
        · exact h
      have HLI := Lib.hid n2
      have HNS := Lib.hid n1
      have yi : IntKind.i64.wrap ((i : Int) + 1) = (i : Int) + 1 := wrap_id (by omega) (by omega)
      have VR : Hid (Vars wr) := HV.out.below (by rw [HR.out]; exact hbr)
      have HF3 := Lib.hid hF3
      have HR3 := Lib.hid hR3
      clear n1 n2 n3 hF3 hR3
      go_upto_if 23 with fail
      go_cut [0, 12] (fun s0 s12 wx => ∃ word rest, s12 = bs word ∧ s0 = bs rest ∧ ((i + 1 < k ∧ word = (cutD 32 li).1 ∧ rest = (cutD 32 li).2) ∨ (i + 1 = k ∧ word = li ∧ rest = li)) ∧ ∃ q, wx = wr.drewN q)
      case first =>
        as_aux_lemma =>
        by_cases hj : i + 1 < k
        · have y2 : (i : Int) < (k : Int) - 1 := by omega
          have HC := fun W => cut_any 32 li (by have := HLI.out; omega) W
          rw [cutV_eq] at HC
          have HD : Hid (∃ p, cutD 32 li = p) := ⟨_, rfl⟩
          generalize (cutAt 32 li).isSome = fnd at *
          obtain ⟨p1, e1⟩ : ∃ p1, (cutD 32 li).1 = p1 := ⟨_, rfl⟩
          obtain ⟨p2, e2⟩ : ∃ p2, (cutD 32 li).2 = p2 := ⟨_, rfl⟩
          rw [e1, e2] at HC
          have H1 : Hid ((cutD 32 li).1 = p1 ∧ (cutD 32 li).2 = p2) := ⟨e1, e2⟩
          have HCH := Lib.hid HC
          clear e1 e2 HD hlL HC
          go_wp2_with (first | (go_at_call 144; refine (HCH.out _).mono ?_; rintro e w' ⟨rfl, q, rfl⟩))
          go_meet
          exact ⟨p1, p2, rfl, rfl, .inl ⟨hj, H1.out.1.symm, H1.out.2.symm⟩, q, rfl⟩
        · have y2 : ¬ (i : Int) < (k : Int) - 1 := by omega
          clear hlL
          go_wp2_with fail
          go_meet
          exact ⟨li, li, rfl, rfl, .inr ⟨by omega, rfl, rfl⟩, 0, rfl⟩
      case rest =>
      as_aux_lemma =>
      obtain ⟨word, rest, rfl, rfl, hWP, q, rfl⟩ := hcut
      have hwl : word.length ≤ 281474976710656 ∧ rest.length ≤ l.length := by
        have := HLI.out
        have := cutD_len 32 li
        rcases hWP with ⟨_, rfl, rfl⟩ | ⟨_, rfl, rfl⟩ <;> omega
      have HWP := Lib.hid hWP
      have HWL := Lib.hid hwl.2
      have hbq : Below wr.heap.size wr (wr.drewN q) := below_drewN (Below.refl _ _)
      have HNU' := number_any word hwl.1 (wr.drewN q) (VR.out.below hbq)
      obtain ⟨ok, hok⟩ : ∃ ok, (numS word).isSome = ok := ⟨_, rfl⟩
      rw [hok] at HNU'
      have HNU := Lib.hid HNU'
      have HOK := Lib.hid hok
      clear HNU' hok
      have hbr2 : Below R w (wr.drewN q) := below_drewN hbr
      have HF4 := Lib.hid (HF3.out.below hbq)
      have HR4 := Lib.hid (HR3.out.below hbq)
      clear hWP hwl hlL VR HF3 HR3 hbr hbq
      generalize wr.drewN q = V at *
      go_upto_region 9 with (first | (go_at_call 170; refine HNU.out.mono ?_; rintro e w2 ⟨n, rfl, hnv, hb2⟩))
      have HF5 := Lib.hid (HF4.out.below hb2)
      have HR5 := Lib.hid (HR4.out.below hb2)
      have hbr3 := hbr2.trans (hb2.mono (by have := hbr2.size; have := HR.out; omega))
      have HNV := Lib.hid hnv
      clear HF4 HR4 hb2 hbr2 HNU hnv
      generalize w2 = V2 at *
      go_cut [46] (fun s46 wx => s46 = .bool (numIn lo hi word).isNone ∧ wx = V2)
      case first =>
        as_aux_lemma =>
        cases ok with
        | false =>
          have H1 : Hid ((numIn lo hi word).isNone = true) := by
            have hw : numS word = none := by have := HOK.out; cases h : numS word <;> simp_all
            unfold Hid numIn; rw [hw]; rfl
          clear HOK
          go_wp2_with fail
          go_meet
          exact ⟨by rw [H1.out], rfl⟩
        | true =>
          have H0 : Hid ((numIn lo hi word).isNone = (decide (n < lo) || decide (hi < n))) := by
            obtain ⟨m, hw⟩ := Option.isSome_iff_exists.1 HOK.out
            have em := HNV.out m hw
            unfold Hid numIn; rw [hw, ← em]
            by_cases a1 : n < lo <;> by_cases a2 : hi < n <;> simp [a1, a2]
          clear HNV HOK
          by_cases a1 : n < lo
          · have f1 : decide (n < lo) = true := decide_eq_true a1
            go_wp2_with fail
            go_meet
            exact ⟨by rw [H0.out, f1]; rfl, rfl⟩
          · have f1 : decide (n < lo) = false := decide_eq_false a1
            by_cases a2 : hi < n
            · have f2 : decide (hi < n) = true := decide_eq_true a2
              go_wp2_with fail
              go_meet
              exact ⟨by rw [H0.out, f1, f2]; rfl, rfl⟩
            · have f2 : decide (hi < n) = false := decide_eq_false a2
              go_wp2_with fail
              go_meet
              exact ⟨by rw [H0.out, f1, f2]; rfl, rfl⟩
      case rest =>
      as_aux_lemma =>
      obtain ⟨rfl, rfl⟩ := hcut
      cases hw : numIn lo hi word with
      | none =>
        have hN : Hid (numsS lo hi k l = none) := by
          unfold Hid
          rw [hS.out]
          rcases HWP.out with ⟨h1, rfl, rfl⟩ | ⟨h1, rfl, rfl⟩
          · obtain ⟨j, ej⟩ : ∃ j, k - i = j + 2 := ⟨k - i - 2, by omega⟩
            rw [ej, nums_more, hw]; rfl
          · have ej : k - i = 1 := by omega
            rw [ej, nums_one, hw]; rfl
        obtain ⟨f0, f1, f2, ff⟩ := HF5.out.cells
        obtain ⟨r0, r1, r2, rf⟩ := HR5.out.cells
        have g0 := rf 0
        have g1 := rf 1
        have g2 := rf 2
        clear hS HWP HNV hw ff rf
        generalize ns.getD 0 0 = x at *
        generalize ns.getD 1 0 = y at *
        generalize ns.getD 2 0 = z at *
        go_wp2
        refine bodyPost_ret (v := .tuple #[.agg #[.int .i64 x, .int .i64 y, .int .i64 z], .bool false]) (by simp [results, Tryz.results145, go_sem, r0, r1, r2]) rfl ⟨x, y, z, ?_, ?_, ?_⟩
        · rw [hN.out]; rfl
        · intro ms hms
          rw [hN.out] at hms
          cases hms
        · rw [HR.out]
          exact ((hbr3.setCell (p := ⟨R, 0, none⟩) (Nat.le_refl _) _).setCell (p := ⟨R, 1, none⟩) (Nat.le_refl _) _).setCell (p := ⟨R, 2, none⟩) (Nat.le_refl _) _
      | some m =>
        have hwm : numS word = some m := by
          unfold numIn at hw
          split at hw
          · cases hw
          · rename_i m' hm'
            split at hw
            · cases hw
            · cases hw; exact hm'
        obtain rfl := HNV.out m hwm
        have hN : Hid (NumsAtI lo hi k l (i + 1) rest (ns ++ [n])) := by
          refine ⟨by simp [HNS.out], HWL.out, ?_⟩
          rw [hS.out]
          rcases HWP.out with ⟨h1, rfl, rfl⟩ | ⟨h1, rfl, rfl⟩
          · refine .inr ⟨h1, ?_⟩
            obtain ⟨j, ej⟩ : ∃ j, k - i = j + 2 := ⟨k - i - 2, by omega⟩
            rw [ej, nums_more, hw, show k - (i + 1) = j + 1 by omega]
            simp only [Option.bind_some, Option.map_map]
            congr 1
            funext r
            simp
          · refine .inl ⟨h1, ?_⟩
            have ej : k - i = 1 := by omega
            rw [ej, nums_one, hw]; rfl
        have hl3 : ns.length < 3 := by rw [HNS.out]; omega
        have HP := Lib.hid (HF5.out.put hl3 n)
        rw [HNS.out] at HP
        have HPR : Hid (F3 (wc.setCell ⟨F, i, none⟩ (.int .i64 n)) R []) := by
          have hne : R ≠ F := by have := HF.out; omega
          unfold Hid F3
          rw [Below.heap_setCell _ _ _ _ hne]
          exact HR5.out
        have HBF : Hid (Below R w (wc.setCell ⟨F, i, none⟩ (.int .i64 n))) := hbr3.setCell (p := ⟨F, i, none⟩) (by have := HF.out; show R ≤ F; omega) _
        have fc : (wc.cell? ⟨F, i, none⟩).isSome = true := by
          have h := HF5.out
          unfold F3 at h
          rw [cell_of_heap h i]
          have h3 := HK.out.2
          match i, hlt with
          | 0, _ => rfl
          | 1, _ => rfl
          | 2, _ => rfl
          | (i + 3), h => exfalso; omega
        obtain ⟨u, hu⟩ := Option.isSome_iff_exists.1 fc
        have ffz : wc.frozen? ⟨F, i, none⟩ = false := frozen_of_heap HF5.out i
        have y0 : (0 : Int) ≤ (i : Int) := by omega
        have y3 : (i : Int) < 3 := by have := HK.out.2; omega
        clear hw hwm hS HWP HNV HF5 HR5 hbr3 fc hl3
        go_wp2
        go_roundw
        case rel => exact ⟨i + 1, rest, ns ++ [n], by omega, rfl, by go_num, hN.out, HP.out, HPR.out, HBF.out⟩
        case measure => simp [intOf]; omega
    · have y1 : ¬ (i : Int) < (k : Int) := by omega
      obtain ⟨n1, n2, n3⟩ := hN
      have hS : Hid (numsS lo hi k l = some ns) := by
        rcases n3 with ⟨_, h⟩ | ⟨h, _⟩
        · exact h
        · omega
      obtain ⟨f0, f1, f2, ff⟩ := hF3.cells
      obtain ⟨r0, r1, r2, rf⟩ := hR3.cells
      have g0 := rf 0
      have g1 := rf 1
      have g2 := rf 2
      clear n1 n2 n3 ff rf
      obtain ⟨x, ex⟩ : ∃ x, ns.getD 0 0 = x := ⟨_, rfl⟩
      obtain ⟨y, ey⟩ : ∃ y, ns.getD 1 0 = y := ⟨_, rfl⟩
      obtain ⟨z, ez⟩ : ∃ z, ns.getD 2 0 = z := ⟨_, rfl⟩
      rw [ex] at f0
      rw [ey] at f1
      rw [ez] at f2
      have HX : Hid (x = ns.getD 0 0 ∧ y = ns.getD 1 0 ∧ z = ns.getD 2 0) := ⟨ex.symm, ey.symm, ez.symm⟩
      clear ex ey ez
      go_wp2
      refine bodyPost_ret (v := .tuple #[.agg #[.int .i64 x, .int .i64 y, .int .i64 z], .bool true]) (by simp [results, Tryz.results145, go_sem, r0, r1, r2]) rfl ⟨x, y, z, ?_, ?_, ?_⟩
      · rw [hS.out]; rfl
      · intro ms hms
        rw [hS.out] at hms
        cases hms
        exact HX.out
      · have hs := hbr.size
        rw [HR.out]
        exact ((hbr.setCell (p := ⟨R, 0, none⟩) (Nat.le_refl _) _).setCell (p := ⟨R, 1, none⟩) (Nat.le_refl _) _).setCell (p := ⟨R, 2, none⟩) (Nat.le_refl _) _
end Go.Proofs.YtgpapegpdfonpaaGreatDoor
