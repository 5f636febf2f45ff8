/-
  The statement on corners, walked.
-/
import Derived.Test.YtgpapegpdfonpaaGives
import Derived.Test.YtgpapegpdfonpaaAroundMath
import Derived.Deep.CutRange
import Derived.BigRegion
import Derived.Deep.DeepCutAuto
import Derived.Deep.CutBlock
namespace Go.Proofs.Ytgpapegpdfonpaa
set_option linter.unusedVariables false
set_option linter.unusedSimpArgs false
open Go.RowKit
attribute [local go_sem ↓] Go.wp_at_zero Go.wp_at_succ

theorem own_any0 {w : World} {base : Nat} {e : TypeId} {xs : List Value} {v : Value} (h : w.ownsRow base e 1 v 0 xs) : ∃ ha hc, v = .slice ha 0 hc := by
  rcases own_shape h with ⟨rfl, _⟩ | ⟨g, c, rfl⟩
  · exact ⟨none, 0, rfl⟩
  · exact ⟨_, _, rfl⟩

theorem nats_of {w : World} {base g n cap : Nat} {c : List Nat} (h : w.ownsRow base 3 1 (.slice (some ⟨g, 0, none⟩) n cap) c.length (c.map toV)) : NatsAt w g 0 c := by
  intro j hj
  obtain ⟨hl, hn⟩ := h
  rcases hn with ⟨hn, _⟩ | ⟨g', cap', cur, hv, hg, hh, h1, h2, h3, h4⟩
  · cases hn
  · cases hv
    have : cur[j]? = some (toV (c.getD j 0)) := by
      have e : (List.map toV c)[j]? = some (toV (c.getD j 0)) := by simp [hj]
      rw [← h4, List.getElem?_take] at e
      split at e
      · simpa using e
      · cases e
    simp [World.cell?, hh, this, toV]

theorem pts_news {w : World} {g off : Nat} {l : List Pt} (h : PtsAt w g off l) : ∀ j u, (cellsP l)[j]? = some u → w.cell? ((⟨g, off, none⟩ : Addr).add j) = some u := by
  intro j u hj
  have hadd : (⟨g, off, none⟩ : Addr).add j = ⟨g, off + j, none⟩ := by unfold Addr.add; split <;> simp_all
  rw [hadd]
  have hlt : j < l.length * 2 := by
    rw [← cellsP_len]
    exact (List.getElem?_eq_some_iff.1 hj).1
  obtain ⟨i, hi⟩ : ∃ i, j = i * 2 ∨ j = i * 2 + 1 := ⟨j / 2, by omega⟩
  rcases hi with rfl | rfl
  · have hi : i < l.length := by omega
    rw [(cellsP_get l i hi).1] at hj
    rw [(h i hi).1]; exact hj
  · have hi : i < l.length := by omega
    rw [(cellsP_get l i hi).2] at hj
    have := (h i hi).2
    rw [Nat.add_assoc] at this
    rw [this]; exact hj
theorem PtsAt.drop {w : World} {g off : Nat} {l : List Pt} (n : Nat) (h : PtsAt w g off l) : PtsAt w g (off + n * 2) (l.drop n) := by
  intro j hj
  have hj' : n + j < l.length := by simp at hj; omega
  have e : (l.drop n).getD j (0, 0) = l.getD (n + j) (0, 0) := by simp [List.getElem?_drop]
  rw [e, show off + n * 2 + j * 2 = off + (n + j) * 2 by omega]
  exact h _ hj'
theorem PtsAt.take {w : World} {g off : Nat} {l : List Pt} (n : Nat) (h : PtsAt w g off l) : PtsAt w g off (l.take n) := by
  intro j hj
  have hj' : j < n ∧ j < l.length := by simp at hj; omega
  have e : (l.take n).getD j (0, 0) = l.getD j (0, 0) := by simp [List.getElem?_take, hj'.1]
  rw [e]
  exact h _ hj'.2

theorem turned_own {W3 w4 w5 : World} {v1 v2 : Value} {l : List Pt} {n : Nat} (hn : n < l.length) (hg4 : W3.grownBy w4 (Value.slice none 0 0).ownBlock) (ho4 : w4.ownsRow W3.heap.size 23 2 v1 (0 + (l.length - n)) ([] ++ cellsP (l.drop n)))
    (hg5 : w4.grownBy w5 v1.ownBlock) (ho5 : w5.ownsRow W3.heap.size 23 2 v2 (0 + (l.length - n) + n) ([] ++ cellsP (l.drop n) ++ cellsP (l.take n))) :
    OwnP w5 W3.heap.size v2 (l.drop n ++ l.take n) ∧ Below W3.heap.size W3 w5 := by
  constructor
  · unfold OwnP
    rw [cellsP_append]
    have e : (l.drop n ++ l.take n).length = 0 + (l.length - n) + n := by simp; omega
    rw [e]
    exact ho5
  · have hb4 : Below W3.heap.size W3 w4 := (Below.refl _ _).grown hg4 (Nat.le_refl _) (fun k hk => by cases hk)
    exact hb4.grown hg5 hb4.size fun k hk => (ho4.lt k hk).1

set_option maxHeartbeats 20000000 in
set_option maxRecDepth 100000 in
theorem around_walk (a : Option Addr) (cap : Nat) (rs : List Pt) (step by' : Int) (w : World) (hm : rs.length ≤ maxLen) (hr : RawAt w a rs) (hfit : Fits rs) (t1 : -9223372036854775808 ≤ step) (t2 : step ≤ 9223372036854775807)
    (b1 : -9223372036854775808 ≤ by') (b2 : by' ≤ 9223372036854775807) :
    Calls Try.prog 5 #[.slice a rs.length cap, .int .i64 step, .int .i64 by'] w fun e w' => e = .returned (.bool true) ∧ Below w.heap.size w w' := by
  have HC := cloud_any a cap rs step w hm hr hfit t1 t2
  obtain ⟨i0, hi0, hz0, hz1, hz2⟩ := info_parts infoPt
  clear hr hfit hm
  generalize rs.length = rn at *
  go_enter Try.func5, Try.ntmps5
  go_upto_region 2 with (go_at_call 12; refine HC.mono ?_; rintro e w1 ⟨v, l, rfl, hl60, hnd, hnear, hown, hb1⟩)
  by_cases hl0 : l = []
  · subst hl0
    obtain ⟨va, vc, rfl⟩ := OwnP.any hown
    clear hown hnd hnear
    simp only [List.length_nil] at *
    go_wp2_with (go_at_call 13; refine (hull_none va vc _).mono ?_; rintro e w2 ⟨hv, rfl, hownh, hb2⟩; obtain ⟨ha, hc, rfl⟩ := own_any0 hownh; have hW := hb1.trans (hb2.mono hb1.size); clear hb2 hownh HC)
    go_loopw [10] (fun i wr => i = .int .i64 0 ∧ wr = w2) (fun i _ => 0)
    case atStart => exact ⟨rfl, rfl⟩
    case round =>
      obtain ⟨rfl, rfl⟩ := hrel
      go_wp2
      go_loopw [11] (fun i wx => i = .int .i64 0 ∧ wx = wr) (fun i _ => 0)
      case atStart => exact ⟨rfl, rfl⟩
      case round =>
        obtain ⟨rfl, rfl⟩ := hrel
        go_wp2
        go_loopw [17] (fun i wx => i = .int .i64 0 ∧ wx = wr) (fun i _ => 0)
        case atStart => exact ⟨rfl, rfl⟩
        case round =>
          obtain ⟨rfl, rfl⟩ := hrel
          go_wp2
          go_ret
          exact ⟨rfl, hW⟩
  · have hlp : 0 < l.length := List.length_pos_iff.2 hl0
    rcases OwnP.shape hown with ⟨_, e⟩ | ⟨g, gc, rfl⟩
    · exact absurd e hl0
    obtain ⟨n, hn⟩ : ∃ n, l.length = n + 1 := ⟨l.length - 1, by omega⟩
    have HH := hull_any g 0 gc l n w1 hn (OwnP.lt hown).1 (OwnP.pts hown) (fault_ok hl60 hnear hnd)
    have HN : Hid (l.length = n + 1) := hn
    have HL : Hid (l ≠ []) := hl0
    clear hn hl0
    go_upto_region 3 with (go_at_call 13; refine HH.mono ?_; rintro e w2 ⟨hv, is, rfl, hio, hownh, hb2⟩)
    have hA := arr_of hio hnd
    have hcl := hA.le
    have hcp := hA.one hlp
    generalize hcc : cornersN l is = c at *
    rcases own_shape hownh with ⟨_, h0⟩ | ⟨g8, c8, rfl⟩
    · omega
    have hb12 := hb1.trans (hb2.mono hb1.size)
    have hps : PtsAt w2 g 0 l := (OwnP.pts hown).below hb2 (OwnP.lt hown).1
    have hns : NatsAt w2 g8 0 c := nats_of hownh
    have hg8 : g8 < w2.heap.size := (own_lt hownh).1
    have hgs : g < w2.heap.size := Nat.lt_of_lt_of_le (OwnP.lt hown).1 hb2.size
    have hgc := (OwnP.lt hown).2.2.1
    have hown2 := OwnP.below hown hb2
    have HA : Hid (Arr l c) := hA
    have HIO : Hid (InOrder l is ∧ cornersN l is = c) := ⟨hio, hcc⟩
    have HND : Hid (l.Nodup ∧ AllNear l) := ⟨hnd, hnear⟩
    clear hA hio hcc hownh HH HC hb1 hb2 hown hnd hnear
    have g1 : decide ((l.length : Int) < (c.length : Int)) = false := decide_eq_false (by omega)
    have g2 : decide ((0 : Int) < (l.length : Int)) = true := decide_eq_true (by omega)
    have g3 : ((c.length : Int) == 0) = false := beq_eq_false_iff_ne.2 (by omega)
    have l60 : (l.length : Int) ≤ 60 := by omega
    have c60 : (c.length : Int) ≤ 60 := by omega
    go_upto_block 0 with fail
    clear g1 g2 g3
    generalize decide (l.length < c.length) = bq at *
    go_cut [10] (fun _ wx => wx = w2)
    case first =>
      as_aux_lemma =>
      go_wp2_with fail
      go_loopw [10] (fun i wr => ∃ k : Nat, k ≤ c.length ∧ i = .int .i64 k ∧ wr = w2) (fun i _ => c.length - (intOf i).toNat)
      case atStart => exact ⟨0, Nat.zero_le _, rfl, rfl⟩
      case round =>
        obtain ⟨k, hk, rfl, rfl⟩ := hrel
        by_cases hlt : k < c.length
        · have c0 := hns k hlt
          rw [Nat.zero_add] at c0
          have c1 := HA.out.lt k hlt
          generalize c.getD k 0 = x at *
          have d1 : decide ((x : Int) < 0) = false := decide_eq_false (by omega)
          have d2 : decide ((l.length : Int) ≤ (x : Int)) = false := decide_eq_false (by omega)
          have d3 : ¬ l.length ≤ x := by omega
          go_wp2
          go_roundw
          case rel => exact ⟨k + 1, by omega, by go_num, trivial⟩
          case measure => simp [intOf]; omega
        · go_wp2
          go_meet
          case rel => rfl
    case rest =>
      as_aux_lemma =>
      subst hcut
      generalize wc = W2 at *
      go_upto_block 2 with fail
      go_cut [11] (fun _ wx => Below W2.heap.size W2 wx)
      case first =>
        as_aux_lemma =>
        go_wp2_with fail
        go_loopw [11] (fun i wr => ∃ k : Nat, k ≤ c.length ∧ i = .int .i64 k ∧ Below W2.heap.size W2 wr) (fun i _ => c.length - (intOf i).toNat)
        case atStart => exact ⟨0, Nat.zero_le _, rfl, Below.refl _ _⟩
        case round =>
          obtain ⟨k, hk, rfl, hb⟩ := hrel
          by_cases hlt : k < c.length
          · by_cases h1 : 1 < c.length
            · have e1 : (1 : Int) < (c.length : Int) := by omega
              go_upto_region 13 with fail
              have hpr := hps.below hb hgs
              have hnr := hns.below hb hg8
              have hx := HA.out.lt k hlt
              have hm : (k + 1) % c.length < c.length := Nat.mod_lt _ (by omega)
              have hy := HA.out.lt ((k + 1) % c.length) hm
              have c0 := hnr k hlt
              have c1 := hnr ((k + 1) % c.length) hm
              rw [Nat.zero_add] at c0 c1
              obtain ⟨d0, d1⟩ := hpr _ hx
              obtain ⟨d2, d3⟩ := hpr _ hy
              rw [Nat.zero_add] at d0 d1 d2 d3
              have hed := HA.out.edge h1 k hlt
              have htn := fun h2 => HA.out.turn h2 k hlt
              unfold cp at hed htn
              generalize hxx : c.getD k 0 = x at *
              generalize hyy : c.getD ((k + 1) % c.length) 0 = y at *
              have eA : ptAt l x = ((l.getD x (0, 0)).1, (l.getD x (0, 0)).2) := rfl
              have eB : ptAt l y = ((l.getD y (0, 0)).1, (l.getD y (0, 0)).2) := rfl
              have nA : Near (l.getD x (0, 0)).1 (l.getD x (0, 0)).2 := HND.out.2 x hx
              have nB : Near (l.getD y (0, 0)).1 (l.getD y (0, 0)).2 := HND.out.2 y hy
              rw [eA, eB] at hed htn
              clear eA eB
              generalize (l.getD x (0, 0)).1 = ax at *
              generalize (l.getD x (0, 0)).2 = ay at *
              generalize (l.getD y (0, 0)).1 = bx at *
              generalize (l.getD y (0, 0)).2 = by2 at *
              have hrem : ((k : Int) + 1).tmod (c.length : Int) = (((k + 1) % c.length : Nat) : Int) := by
                rw [Int.tmod_eq_emod_of_nonneg (by omega)]; rfl
              generalize (k + 1) % c.length = m at *
              have y0 : (0 : Int) ≤ (k : Int) := by omega
              have y1 : (k : Int) < (c.length : Int) := by omega
              have y2 : (0 : Int) ≤ (m : Int) := by omega
              have y3 : (m : Int) < (c.length : Int) := by omega
              have y4 : (0 : Int) ≤ (x : Int) := by omega
              have y5 : (x : Int) < (l.length : Int) := by omega
              have y6 : (0 : Int) ≤ (y : Int) := by omega
              have y7 : (y : Int) < (l.length : Int) := by omega
              have y8 : IntKind.i64.wrap ((k : Int) + 1) = (k : Int) + 1 := wrap_id (by omega) (by omega)
              have y9 : ((c.length : Int) == 0) = false := beq_eq_false_iff_ne.2 (by omega)
              have y10 : ¬ c.length = 0 := by omega
              have hg8r : g8 < wr.heap.size := Nat.lt_of_lt_of_le hg8 hb.size
              have hgr : g < wr.heap.size := Nat.lt_of_lt_of_le hgs hb.size
              have HE : Hid (∀ k, k < l.length → 0 ≤ sd (ax, ay) (bx, by2) (ptAt l k) ∧ (sd (ax, ay) (bx, by2) (ptAt l k) = 0 → dt (ax, ay) (bx, by2) (ptAt l k) ≤ 0)) := hed
              have HT : Hid (2 < c.length → 0 < sd (ax, ay) (bx, by2) (ptAt l (c.getD ((k + 2) % c.length) 0))) := htn
              have NA : Hid (Near ax ay) := nA
              have NB : Hid (Near bx by2) := nB
              clear hed htn nA nB
              go_cut [12, 13] (fun s12 s13 wx => ∃ p q, s12 = .pointer (some ⟨p, 0, none⟩) ∧ s13 = .pointer (some ⟨q, 0, none⟩) ∧ p < wx.heap.size ∧ q < wx.heap.size ∧
                wx.cell? ⟨p, 0, none⟩ = some (.int .i64 ax) ∧ wx.cell? ⟨p, 1, none⟩ = some (.int .i64 ay) ∧ wx.cell? ⟨q, 0, none⟩ = some (.int .i64 bx) ∧ wx.cell? ⟨q, 1, none⟩ = some (.int .i64 by2) ∧ Below wr.heap.size wr wx)
              case first =>
                as_aux_lemma =>
                clear hps hns hpr hnr HA HIO HND hown2 HE HT NA NB
                go_region
                all_goals go_wp2_with fail
                all_goals go_meet
                all_goals
                  refine ⟨_, _, rfl, rfl, by simp <;> omega, by simp <;> omega, ?_, ?_, ?_, ?_, (below2 _ _ _).drew⟩
                  all_goals first
                    | (simp [go_sem]; done)
                    | (rw [World.cell?_drew, World.cell?_alloc_at _ _ _ _ (by simp)]; rfl)
              case rest =>
                as_aux_lemma =>
                obtain ⟨p, q, rfl, rfl, hpz, hqz, p0, p1, q0, q1, hbx⟩ := hcut
                have hbV := hb.trans (hbx.mono hb.size)
                have hpV := hps.below hbV hgs
                have hnV := hns.below hbV hg8
                generalize wc = V at *
                clear c0 c1 d0 d1 d2 d3 hpr hnr hg8r hgr hrem y2 y3 y4 y5 y6 y7 y8 y9 hbx hb hyy hxx
                go_wp2_with fail
                go_loopw [14] (fun i wr => ∃ j : Nat, j ≤ l.length ∧ i = .int .i64 j ∧ Below V.heap.size V wr) (fun i _ => l.length - (intOf i).toNat)
                case atStart => exact ⟨0, Nat.zero_le _, rfl, Below.refl _ _⟩
                case round =>
                  obtain ⟨j, hj, rfl, hbj⟩ := hrel
                  have z0 := (hbj.cell (p := ⟨p, 0, none⟩) hpz).trans p0
                  have z1 := (hbj.cell (p := ⟨p, 1, none⟩) hpz).trans p1
                  have z2 := (hbj.cell (p := ⟨q, 0, none⟩) hqz).trans q0
                  have z3 := (hbj.cell (p := ⟨q, 1, none⟩) hqz).trans q1
                  have zp := Nat.lt_of_lt_of_le hpz hbj.size
                  have zq := Nat.lt_of_lt_of_le hqz hbj.size
                  have gV := Nat.lt_of_lt_of_le hgs hbV.size
                  have gW := Nat.lt_of_lt_of_le gV hbj.size
                  by_cases hjl : j < l.length
                  · obtain ⟨z4, z5⟩ := hpV j hjl
                    rw [Nat.zero_add] at z4 z5
                    rw [← hbj.cell (p := ⟨g, j * 2, none⟩) gV] at z4
                    rw [← hbj.cell (p := ⟨g, j * 2 + 1, none⟩) gV] at z5
                    have nC : Near (l.getD j (0, 0)).1 (l.getD j (0, 0)).2 := HND.out.2 j hjl
                    obtain ⟨hs0, hs1⟩ := HE.out j hjl
                    have eC : ptAt l j = ((l.getD j (0, 0)).1, (l.getD j (0, 0)).2) := rfl
                    rw [eC] at hs0 hs1
                    clear eC
                    generalize (l.getD j (0, 0)).1 = lx at *
                    generalize (l.getD j (0, 0)).2 = ly at *
                    have eS : sd (ax, ay) (bx, by2) (lx, ly) = sideN ax ay bx by2 lx ly := rfl
                    have eD : dt (ax, ay) (bx, by2) (lx, ly) = (lx - ax) * (lx - bx) + (ly - ay) * (ly - by2) := rfl
                    rw [eS] at hs0 hs1
                    rw [eD] at hs1
                    clear eS eD
                    have SC := fun W => kside_any ax ay bx by2 lx ly W NA.out NB.out nC
                    have hbd := sideN_bd NA.out NB.out nC
                    generalize sideN ax ay bx by2 lx ly = S at *
                    have x0 : (0 : Int) ≤ (j : Int) := by omega
                    have x1 : (j : Int) < (l.length : Int) := by omega
                    go_wp2_with fail
                    go_region_held3 (fun w' => Below wr.heap.size wr w' ∧ ∀ b o, b < wr.heap.size → w'.cell? ⟨b, o, none⟩ = wr.cell? ⟨b, o, none⟩) (first | exact keep0 _ | exact keep1 (by assumption) hb1)
                      (first | (go_at_call 11; refine (SC _).mono ?_; rintro e w' ⟨rfl, hb1⟩))
                    rename_i hS
                    have hbj2 := hbj.trans (hS.1.mono hbj.size)
                    replace z0 := (hS.2 p 0 zp).trans z0
                    replace z1 := (hS.2 p 1 zp).trans z1
                    replace z2 := (hS.2 q 0 zq).trans z2
                    replace z3 := (hS.2 q 1 zq).trans z3
                    replace z4 := (hS.2 g _ gW).trans z4
                    replace z5 := (hS.2 g _ gW).trans z5
                    clear hS hb1 SC
                    generalize w' = wq at *
                    have bx1 := NA.out.x1; have bx2 := NA.out.x2; have bx3 := NA.out.y1; have bx4 := NA.out.y2
                    have bx5 := NB.out.x1; have bx6 := NB.out.x2; have bx7 := NB.out.y1; have bx8 := NB.out.y2
                    have bx9 := nC.x1; have bx10 := nC.x2; have bx11 := nC.y1; have bx12 := nC.y2
                    have mm1 := @mul_bd (lx - ax) (lx - bx) 16000 16000 (by omega) (by omega) (by omega) (by omega)
                    have mm2 := @mul_bd (ly - ay) (ly - by2) 16000 16000 (by omega) (by omega) (by omega) (by omega)
                    have m1 := wrap_id (n := lx - ax) (by omega) (by omega)
                    have m2 := wrap_id (n := lx - bx) (by omega) (by omega)
                    have m3 := wrap_id (n := ly - ay) (by omega) (by omega)
                    have m4 := wrap_id (n := ly - by2) (by omega) (by omega)
                    have m5 := wrap_id (n := (lx - ax) * (lx - bx)) (by omega) (by omega)
                    have m6 := wrap_id (n := (ly - ay) * (ly - by2)) (by omega) (by omega)
                    have m7 := wrap_id (n := (lx - ax) * (lx - bx) + (ly - ay) * (ly - by2)) (by omega) (by omega)
                    clear bx1 bx2 bx3 bx4 bx5 bx6 bx7 bx8 bx9 bx10 bx11 bx12 mm1 mm2 nC hbd
                    go_wp2_with fail
                    go_quiet (fail)
                    clear m1 m2 m3 m4 m5 m6 m7 z0 z1 z2 z3 z4 z5
                    generalize hDD : (lx - ax) * (lx - bx) + (ly - ay) * (ly - by2) = D at *
                    have x2 : IntKind.i64.wrap ((j : Int) + 1) = (j : Int) + 1 := wrap_id (by omega) (by omega)
                    by_cases hSz : S = 0
                    · have hD : decide (0 < D) = false := decide_eq_false (by have := hs1 hSz; omega)
                      subst hSz
                      go_wp2
                      go_roundw
                      case rel => exact ⟨j + 1, by omega, by go_num, below_drewN hbj2⟩
                      case measure => simp [intOf]; omega
                    · have hS1 : decide (S < 0) = false := decide_eq_false (by omega)
                      have hS2 : (S == 0) = false := beq_eq_false_iff_ne.2 hSz
                      go_wp2
                      go_roundw
                      case rel => exact ⟨j + 1, by omega, by go_num, below_drewN hbj2⟩
                      case measure => simp [intOf]; omega
                  · have hbR := hbV.trans (hbj.mono hbV.size)
                    by_cases h2 : 2 < c.length
                    · have hm2 : (k + 2) % c.length < c.length := Nat.mod_lt _ (by omega)
                      have hx2 := HA.out.lt _ hm2
                      have z6 := hnV _ hm2
                      rw [Nat.zero_add] at z6
                      have g8V := Nat.lt_of_lt_of_le hg8 hbV.size
                      have g8W := Nat.lt_of_lt_of_le g8V hbj.size
                      rw [← hbj.cell (p := ⟨g8, (k + 2) % c.length, none⟩) g8V] at z6
                      obtain ⟨z4, z5⟩ := hpV _ hx2
                      rw [Nat.zero_add] at z4 z5
                      rw [← hbj.cell (p := ⟨g, _, none⟩) gV] at z4
                      rw [← hbj.cell (p := ⟨g, _, none⟩) gV] at z5
                      have ht := HT.out h2
                      have hrem : ((k : Int) + 2).tmod (c.length : Int) = (((k + 2) % c.length : Nat) : Int) := by
                        rw [Int.tmod_eq_emod_of_nonneg (by omega)]; rfl
                      have nC : Near (px l (c.getD ((k + 2) % c.length) 0)) (py l (c.getD ((k + 2) % c.length) 0)) := HND.out.2 _ hx2
                      unfold px py at nC
                      generalize c.getD ((k + 2) % c.length) 0 = t at *
                      generalize (k + 2) % c.length = m2 at *
                      have eC : ptAt l t = ((l.getD t (0, 0)).1, (l.getD t (0, 0)).2) := rfl
                      rw [eC] at ht
                      clear eC
                      generalize (l.getD t (0, 0)).1 = lx at *
                      generalize (l.getD t (0, 0)).2 = ly at *
                      have eS : sd (ax, ay) (bx, by2) (lx, ly) = sideN ax ay bx by2 lx ly := rfl
                      rw [eS] at ht
                      clear eS
                      have SC := fun W => kside_any ax ay bx by2 lx ly W NA.out NB.out nC
                      generalize sideN ax ay bx by2 lx ly = S at *
                      have y0' : (2 : Int) < (c.length : Int) := by omega
                      have y2 : (0 : Int) ≤ (m2 : Int) := by omega
                      have y3 : (m2 : Int) < (c.length : Int) := by omega
                      have y4 : (0 : Int) ≤ (t : Int) := by omega
                      have y5 : (t : Int) < (l.length : Int) := by omega
                      have y8 : IntKind.i64.wrap ((k : Int) + 2) = (k : Int) + 2 := wrap_id (by omega) (by omega)
                      have y9 : ((c.length : Int) == 0) = false := beq_eq_false_iff_ne.2 (by omega)
                      have hS1 : decide (S ≤ 0) = false := decide_eq_false (by omega)
                      go_wp2_with fail
                      go_region_held3 (fun w' => Below wr.heap.size wr w' ∧ ∀ b o, b < wr.heap.size → w'.cell? ⟨b, o, none⟩ = wr.cell? ⟨b, o, none⟩) (first | exact keep0 _ | exact keep1 (by assumption) hb1)
                        (first | (go_at_call 11; refine (SC _).mono ?_; rintro e w' ⟨rfl, hb1⟩))
                      rename_i hS
                      have hbR2 := hbR.trans (hS.1.mono hbR.size)
                      clear hS hb1 z0 z1 z2 z3 z4 z5 z6
                      have x2 : IntKind.i64.wrap ((k : Int) + 1) = (k : Int) + 1 := wrap_id (by omega) (by omega)
                      go_wp2
                      go_roundw
                      case rel => exact ⟨k + 1, by omega, by go_num, hbR2⟩
                      case measure => simp [intOf]; omega
                    · have hd2 : decide ((2 : Int) < (c.length : Int)) = false := decide_eq_false (by omega)
                      have x2 : IntKind.i64.wrap ((k : Int) + 1) = (k : Int) + 1 := wrap_id (by omega) (by omega)
                      go_wp2_with fail
                      go_quiet (fail)
                      go_wp2
                      go_roundw
                      case rel => exact ⟨k + 1, by omega, by go_num, below_drewN hbR⟩
                      case measure => simp [intOf]; omega
            · have e1 : decide ((1 : Int) < (c.length : Int)) = false := decide_eq_false (by omega)
              go_wp2
              go_meet
              case rel => exact hb
          · go_wp2
            go_meet
            case rel => exact hb
      case rest =>
        as_aux_lemma =>
        go_upto_block 6 with fail
        have c00 := HA.out.lt 0 hcp
        have hple := HA.out.first
        unfold cp at hple
        have HPLE : Hid (∀ k, k < l.length → ple (ptAt l (c.getD 0 0)) (ptAt l k)) := hple
        have htwo := HA.out.two
        clear hple
        go_cut [17] (fun _ wx => Below W2.heap.size W2 wx)
        case first =>
          as_aux_lemma =>
          go_wp2_with fail
          go_loopw [17] (fun i wr => ∃ j : Nat, j ≤ l.length ∧ i = .int .i64 j ∧ Below W2.heap.size W2 wr) (fun i _ => l.length - (intOf i).toNat)
          case atStart => exact ⟨0, Nat.zero_le _, rfl, hcut⟩
          case round =>
            obtain ⟨j, hj, rfl, hbj⟩ := hrel
            by_cases hjl : j < l.length
            · have z0 := (hns.below hbj hg8) 0 hcp
              obtain ⟨z1, z2⟩ := (hps.below hbj hgs) _ c00
              obtain ⟨z3, z4⟩ := (hps.below hbj hgs) _ hjl
              rw [Nat.zero_add] at z0 z1 z2 z3 z4
              have hpl := HPLE.out j hjl
              generalize c.getD 0 0 = f at *
              have e1 : ptAt l f = ((l.getD f (0, 0)).1, (l.getD f (0, 0)).2) := rfl
              have e2 : ptAt l j = ((l.getD j (0, 0)).1, (l.getD j (0, 0)).2) := rfl
              rw [e1, e2] at hpl
              clear e1 e2
              generalize (l.getD f (0, 0)).1 = fx at *
              generalize (l.getD f (0, 0)).2 = fy at *
              generalize (l.getD j (0, 0)).1 = lx at *
              generalize (l.getD j (0, 0)).2 = ly at *
              have hcase : fx < lx ∨ (fx = lx ∧ fy ≤ ly) := by
                rcases hpl with hpl | hpl
                · unfold plt at hpl; simp only at hpl; omega
                · have := Prod.mk.inj hpl; omega
              clear hpl
              have x0 : (0 : Int) ≤ (j : Int) := by omega
              have x1 : (j : Int) < (l.length : Int) := by omega
              have x2 : (0 : Int) ≤ (f : Int) := by omega
              have x3 : (f : Int) < (l.length : Int) := by omega
              have x4 : (0 : Int) < (c.length : Int) := by omega
              have x5 : IntKind.i64.wrap ((j : Int) + 1) = (j : Int) + 1 := wrap_id (by omega) (by omega)
              have q1 : decide (lx < fx) = false := decide_eq_false (by omega)
              by_cases q2 : lx = fx
              · subst q2
                have q3 : decide (ly < fy) = false := decide_eq_false (by omega)
                by_cases q4 : 1 < l.length
                · have q5 : (1 : Int) < (l.length : Int) := by omega
                  have q6 : decide ((c.length : Int) < 2) = false := decide_eq_false (by have := htwo q4; omega)
                  go_wp2_with fail
                  go_quiet (fail)
                  go_wp2
                  go_roundw
                  case rel => exact ⟨j + 1, by omega, by go_num, below_drewN hbj⟩
                  case measure => simp [intOf]; omega
                · have q5 : decide ((1 : Int) < (l.length : Int)) = false := decide_eq_false (by omega)
                  go_wp2_with fail
                  go_quiet (fail)
                  go_wp2
                  go_roundw
                  case rel => exact ⟨j + 1, by omega, by go_num, below_drewN hbj⟩
                  case measure => simp [intOf]; omega
              · have q3 : (lx == fx) = false := beq_eq_false_iff_ne.2 q2
                by_cases q4 : 1 < l.length
                · have q5 : (1 : Int) < (l.length : Int) := by omega
                  have q6 : decide ((c.length : Int) < 2) = false := decide_eq_false (by have := htwo q4; omega)
                  go_wp2_with fail
                  go_quiet (fail)
                  go_wp2
                  go_roundw
                  case rel => exact ⟨j + 1, by omega, by go_num, below_drewN hbj⟩
                  case measure => simp [intOf]; omega
                · have q5 : decide ((1 : Int) < (l.length : Int)) = false := decide_eq_false (by omega)
                  go_wp2_with fail
                  go_quiet (fail)
                  go_wp2
                  go_roundw
                  case rel => exact ⟨j + 1, by omega, by go_num, below_drewN hbj⟩
                  case measure => simp [intOf]; omega
            · go_wp2
              go_meet
              case rel => exact hbj
        case rest =>
          as_aux_lemma =>
          have hbd := pk_bd by' l.length (by omega)
          obtain ⟨n, hn⟩ : ∃ n : Nat, pk by' l.length = (n : Int) := ⟨(pk by' l.length).toNat, by omega⟩
          have HP := fun W => pick_any by' l.length W b1 b2 (by omega) (by omega)
          rw [hn] at HP hbd
          have g4 : ((l.length : Int) == 0) = false := beq_eq_false_iff_ne.2 (by omega)
          have hnl : n < l.length := by omega
          have n0 : (0 : Int) ≤ (n : Int) := by omega
          have n1 : (n : Int) ≤ (l.length : Int) := by omega
          have n2 : (l.length : Int) ≤ (gc : Int) := by omega
          have hbW := hcut
          generalize wc = W3 at *
          have hp3 := hps.below hbW hgs
          have hn3 := hns.below hbW hg8
          have hg3 : g < W3.heap.size := Nat.lt_of_lt_of_le hgs hbW.size
          have hg83 : g8 < W3.heap.size := Nat.lt_of_lt_of_le hg8 hbW.size
          have hd3 := PtsAt.drop n hp3
          have ht3 := PtsAt.take n hp3
          rw [Nat.zero_add] at hd3
          clear hcut
          go_wp2_with (first
            | (go_at_call 14; refine (HP _).mono ?_; rintro e w' ⟨rfl, hw'⟩; rw [hw']; clear hw')
            | (at_builtin; refine wpList_append_own _ (by rfl) (.tmp 248) (.tmp 251) 28 (by rfl) W3.heap.size 23 i0 (.agg #[.int .i64 0, .int .i64 0]) 2 16 Try.underlying28 hi0 hz0 hz1 hz2 rfl (by decide) _ 0 [] (by rfl) (World.ownsRow_nil _ _ _ _) ⟨g, n * 2, none⟩ (l.length - n) (gc - n) (cellsP (l.drop n)) (by rfl) (by rw [cellsP_len, List.length_drop]) (pts_news hd3) (cellsP_one _) (by unfold maxLen; omega) (by omega) (Nat.le_refl _) ?_; intro v1 w4 hown4 hgrow4 hnil4)
            | (at_builtin; refine wpList_append_own _ (by rfl) (.tmp 253) (.tmp 256) 28 (by rfl) W3.heap.size 23 i0 (.agg #[.int .i64 0, .int .i64 0]) 2 16 Try.underlying28 hi0 hz0 hz1 hz2 rfl (by decide) v1 (0 + (l.length - n)) ([] ++ cellsP (l.drop n)) (by rfl) hown4 ⟨g, 0, none⟩ n gc (cellsP (l.take n)) (by rfl) (by rw [cellsP_len, List.length_take]; omega) (fun j u hj => (hgrow4.cell (pts_news ht3 j u hj) (by intro e; cases e))) (cellsP_one _) (by unfold maxLen; omega) (by omega) hgrow4.size ?_; intro v2 w5 hown5 hgrow5 hnil5))
          obtain ⟨hownT, hbT⟩ := turned_own hnl hgrow4 hown4 hgrow5 hown5
          have hpm := rot_perm l n
          clear hgrow4 hown4 hgrow5 hown5 hnil4 hnil5 hd3 ht3 HP g4 n0 n1 n2 hn hbd
          generalize l.drop n ++ l.take n = t at *
          have htl : t.length = l.length := hpm.length_eq
          rcases OwnP.shape hownT with ⟨_, e⟩ | ⟨gt, ct, rfl⟩
          · exact absurd (by rw [e] at htl; simp at htl; omega) (Nat.lt_irrefl 0)
          have hnearT := near_perm hpm HND.out.2
          have HH := hull_any gt 0 ct t (t.length - 1) w5 (by omega) (OwnP.lt hownT).1 (OwnP.pts hownT) (fault_ok (by omega) hnearT (hpm.symm.nodup HND.out.1))
          refine HH.mono ?_
          rintro e w6 ⟨hv2, is2, rfl, hio2, hownh2, hb6⟩
          have hsame := same_corners hpm HND.out.1 HIO.out.1 hio2
          rw [HIO.out.2] at hsame
          have hA2 := arr_of hio2 (hpm.symm.nodup HND.out.1)
          generalize cornersN t is2 = c2 at *
          obtain ⟨hc2, hcp2⟩ := same_at hsame
          rcases own_shape hownh2 with ⟨_, h0⟩ | ⟨g20, c20, rfl⟩
          · omega
          have hlt2 := hA2.lt
          have hb36 := hbT.trans (hb6.mono hbT.size)
          have ptT : PtsAt w6 gt 0 t := (OwnP.pts hownT).below hb6 (OwnP.lt hownT).1
          have ntT : NatsAt w6 g20 0 c2 := nats_of hownh2
          have ptL : PtsAt w6 g 0 l := hp3.below hb36 hg3
          have ntL : NatsAt w6 g8 0 c := hn3.below hb36 hg83
          have g20l : g20 < w6.heap.size := (own_lt hownh2).1
          have gtl : gt < w6.heap.size := Nat.lt_of_lt_of_le (OwnP.lt hownT).1 hb6.size
          have gl : g < w6.heap.size := Nat.lt_of_lt_of_le hg3 hb36.size
          have g8l : g8 < w6.heap.size := Nat.lt_of_lt_of_le hg83 hb36.size
          have ownT6 := OwnP.below hownT hb6
          have hbA : Below w.heap.size w w6 := (hb12.trans (hbW.mono hb12.size)).trans (hb36.mono (hb12.trans (hbW.mono hb12.size)).size)
          have base6 : W3.heap.size ≤ w6.heap.size := hb36.size
          have base3 : w.heap.size ≤ W3.heap.size := (hb12.trans (hbW.mono hb12.size)).size
          have HNT : Hid (AllNear t) := hnearT
          have hlA := HA.out.lt
          clear hnearT HH hio2 hownh2 hb6 hsame hA2 hownT hp3 hn3 hbT hb36 hps hns hown2 HPLE htwo hb12 hbW hg3 hg83 hgs hg8 HIO hpm
          have e0 : ((c2.length : Int) != (c.length : Int)) = false := by rw [hc2]; simp
          have HC2 : Hid (c2.length = c.length) := hc2
          have HTL : Hid (t.length = l.length) := htl
          clear hc2 htl
          go_upto_block 8 with fail
          go_cut [22] (fun _ wx => Below w6.heap.size w6 wx)
          case first =>
            as_aux_lemma =>
            clear ownT6 HNT HND HTL HA
            go_wp2_with fail
            go_loopw [22] (fun i wr => ∃ j : Nat, j ≤ c2.length ∧ i = .int .i64 j ∧ Below w6.heap.size w6 wr) (fun i _ => c2.length - (intOf i).toNat)
            case atStart => exact ⟨0, Nat.zero_le _, rfl, Below.refl _ _⟩
            case round =>
              obtain ⟨j, hj, rfl, hbj⟩ := hrel
              by_cases hjl : j < c2.length
              · have z0 := (ntT.below hbj g20l) j hjl
                have z1 := (ntL.below hbj g8l) j (by have := HC2.out; omega)
                have hx2 := hlt2 j hjl
                have hx1 := hlA j (by have := HC2.out; omega)
                obtain ⟨z2, z3⟩ := (ptT.below hbj gtl) _ hx2
                obtain ⟨z4, z5⟩ := (ptL.below hbj gl) _ hx1
                rw [Nat.zero_add] at z0 z1 z2 z3 z4 z5
                have heq : t.getD (c2.getD j 0) (0, 0) = l.getD (c.getD j 0) (0, 0) := hcp2 j hjl
                rw [heq] at z2 z3
                generalize c2.getD j 0 = x2 at *
                generalize c.getD j 0 = x1 at *
                generalize (l.getD x1 (0, 0)).1 = lx at *
                generalize (l.getD x1 (0, 0)).2 = ly at *
                clear ntT ntL ptT ptL hlt2 hlA hcp2 heq
                have y0 : (0 : Int) ≤ (j : Int) := by omega
                have y1 : (j : Int) < (c2.length : Int) := by omega
                have y2 : (j : Int) < (c.length : Int) := by have := HC2.out; omega
                have y3 : (0 : Int) ≤ (x1 : Int) := by omega
                have y4 : (x1 : Int) < (l.length : Int) := by omega
                have y5 : (0 : Int) ≤ (x2 : Int) := by omega
                have y6 : (x2 : Int) < (t.length : Int) := by omega
                have y7 : decide ((x2 : Int) < 0) = false := decide_eq_false (by omega)
                have y8 : decide ((t.length : Int) ≤ (x2 : Int)) = false := decide_eq_false (by omega)
                have y9 : IntKind.i64.wrap ((j : Int) + 1) = (j : Int) + 1 := wrap_id (by have := HC2.out; omega) (by have := HC2.out; omega)
                go_wp2_with fail
                go_quiet (fail)
                go_wp2
                go_roundw
                case rel => exact ⟨j + 1, by omega, by go_num, below_drewN hbj⟩
                case measure => simp [intOf]; omega
              · go_wp2
                go_meet
                case rel => exact hbj
          case rest =>
            as_aux_lemma =>
            have hb7 := hcut
            clear hcut
            generalize wc = w7 at *
            have ownT7 := OwnP.below ownT6 hb7
            have hbA7 := hbA.trans (hb7.mono hbA.size)
            have base7 : W3.heap.size ≤ w7.heap.size := Nat.le_trans base6 hb7.size
            have tpos : 0 < t.length := by have := HTL.out; omega
            obtain ⟨z0, z1⟩ := (OwnP.pts ownT7) 0 tpos
            simp only [Nat.zero_mul, Nat.zero_add] at z0 z1
            have tp : (0 : Int) < (t.length : Int) := by omega
            have hmem : t.getD 0 (0, 0) ∈ t := ptAt_mem tpos
            have e0 : t.getD 0 (0, 0) = ((t.getD 0 (0, 0)).1, (t.getD 0 (0, 0)).2) := rfl
            rw [e0] at hmem
            have HMEM : Hid (((t.getD 0 (0, 0)).1, (t.getD 0 (0, 0)).2) ∈ t) := hmem
            clear hmem e0 ptT ptL ntT ntL hlt2 hlA hcp2 ownT6 g20l gtl gl g8l hbA
            generalize (t.getD 0 (0, 0)).1 = tx at *
            generalize (t.getD 0 (0, 0)).2 = ty at *
            have t60 : t.length ≤ 60 := by have := HTL.out; omega
            go_wp2_with (at_builtin; refine wpList_append_lies _ (by rfl) (.tmp 310) (.tmp 314) 28 (by rfl) W3.heap.size 23 i0 (.agg #[.int .i64 0, .int .i64 0]) 2 16 Try.underlying28 hi0 hz0 hz1 hz2 rfl (by decide) _ _ _ (by rfl) (OwnP.below ownT7 (below1 _ _)) ⟨w7.heap.size, 0, none⟩ 1 1 [.int .i64 tx, .int .i64 ty] (by rfl) rfl ?c1 ?c2 (by decide) ?c3 ?c4 ?c5 (w7.heap.size + 1) ?c6 ?_)
            case c1 =>
              intro j u hj
              match j, hj with
              | 0, hj => simp at hj; subst hj; simp [Addr.add]
              | 1, hj => simp at hj; subst hj; simp [Addr.add]
            case c2 => intro u hu; simp at hu; rcases hu with rfl | rfl <;> rfl
            case c3 => unfold maxLen; omega
            case c4 => omega
            case c5 => simp; omega
            case c6 => simp
            · intro g9 c9 w8 hown8 hgrow8 hat8 hlt8
              have hb78 : Below W3.heap.size w7 w8 := OwnP.grown (v' := .slice none 0 0) (l' := []) ownT7 (Below.refl _ _) hgrow8 base7
              have hb8 : Below w.heap.size w w8 := hbA7.trans (hb78.mono base3)
              have own8 : OwnP w8 W3.heap.size (.slice (some ⟨g9, 0, none⟩) (t.length + 1) c9) (t ++ [(tx, ty)]) := by
                have e : cellsP (t ++ [(tx, ty)]) = cellsP t ++ [.int .i64 tx, .int .i64 ty] := by rw [cellsP_append]; rfl
                unfold OwnP
                rw [e, List.length_append]
                exact hown8
              clear hown8 hgrow8 hat8 ownT7 hb78 z0 z1
              by_cases h60 : l.length = 60
              · have hq : ((l.length : Int) == 60) = true := by rw [h60]; rfl
                go_wp2_with (go_at_call 13; refine (hull_many _ (t.length + 1) c9 _ (by have := HTL.out; omega)).mono ?_; rintro e w9 ⟨rfl, hb9⟩)
                go_ret
                exact ⟨rfl, hb8.trans (hb9.mono hb8.size)⟩
              · have hF : faultN (t ++ [(tx, ty)]) = 3 := fault_again (by have := HTL.out; omega) HNT.out _ HMEM.out
                have HF := hull_fault g9 0 c9 (t ++ [(tx, ty)]) t.length w8 (by simp) (by have := HTL.out; simp; omega) hlt8 (OwnP.pts own8) (by rw [hF]; decide)
                rw [hF] at HF
                have el : (t ++ [(tx, ty)]).length = t.length + 1 := by simp
                rw [el] at HF
                go_wp2_with (go_at_call 13; refine HF.mono ?_; rintro e w9 ⟨rfl, hb9⟩)
                go_ret
                exact ⟨rfl, hb8.trans (hb9.mono hb8.size)⟩

end Go.Proofs.Ytgpapegpdfonpaa
