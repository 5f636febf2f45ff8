/-
  Do the triangles fill the hull: walked.
-/
import Derived.Test.YtgpapegpdfonpaaGreatEmptyC
import Derived.Deep.CutRange
import Derived.BigRegion
import Derived.BigQuiet
import Derived.Deep.DeepCutAuto
import Derived.Deep.CutBlock
namespace Go.Proofs.YtgpapegpdfonpaaGreat
set_option linter.unusedVariables false
set_option linter.unusedSimpArgs false
open Go.RowKit
attribute [local go_sem ↓] Go.wp_at_zero Go.wp_at_succ

set_option maxHeartbeats 20000000 in
set_option maxRecDepth 100000 in
theorem fills_real (g gc gt ct : Nat) (l : List Pt) (ts : List T3) (w : World) (hl60 : l.length ≤ 60) (hnd : l.Nodup) (hnear : AllNear l) (hlp : 0 < l.length) (hg : g < w.heap.size) (hp : PtsAt w g 0 l)
    (hgt : gt < w.heap.size) (ht : TrisAt w gt ts) (htl : ts.length ≤ 4000) (hF : ∀ is, InOrder l is → FillOk l (cp l (cornersN l is)) (cornersN l is).length ts) :
    Calls Tryz.prog 17 #[.slice (some ⟨g, 0, none⟩) l.length gc, .slice (some ⟨gt, 0, none⟩) ts.length ct] w fun e w' => e = .returned (.bool true) ∧ Below w.heap.size w w' := by
  have HH := hull_any g 0 gc l (l.length - 1) w (by omega) hg hp (fault_ok hl60 hnear hnd)
  have HN : Hid (AllNear l) := hnear
  have HFI : Hid (∀ is, InOrder l is → FillOk l (cp l (cornersN l is)) (cornersN l is).length ts) := hF
  clear hF hnear
  go_enter Tryz.func17, Tryz.ntmps17
  go_upto_region 2 with (go_at_call 28; refine HH.mono ?_; rintro e w2 ⟨hv, is, rfl, hio, hownh, hb2⟩)
  have hA := arr_of hio hnd
  have hcl := hA.le
  have hcp := hA.one hlp
  have FO : Hid (FillOk l (cp l (cornersN l is)) (cornersN l is).length ts) := HFI.out is hio
  generalize cornersN l is = c at *
  rcases own_shape hownh with ⟨_, h0⟩ | ⟨g8, c8, rfl⟩
  · omega
  have hps : PtsAt w2 g 0 l := hp.below hb2 hg
  have hts : TrisAt w2 gt ts := ht.below hb2 hgt
  have hns : NatsAt w2 g8 0 c := nats_own hownh
  have hg8 : g8 < w2.heap.size := (own_lt hownh).1
  have hgs : g < w2.heap.size := Nat.lt_of_lt_of_le hg hb2.size
  have hgts : gt < w2.heap.size := Nat.lt_of_lt_of_le hgt hb2.size
  have HLT : Hid (∀ i, i < c.length → c.getD i 0 < l.length) := hA.lt
  clear hA hio hownh HH HFI hnd hp ht hg hgt
  have l60 : (l.length : Int) ≤ 60 := by omega
  have c60 : (c.length : Int) ≤ 60 := by omega
  go_upto_block 0 with fail
  go_cut [7] (fun _ wx => wx = w2)
  case first =>
    as_aux_lemma =>
    go_wp2_with fail
    go_loopw [7] (fun i wr => ∃ k : Nat, k ≤ c.length ∧ i = .int .i64 k ∧ wr = w2) (fun i _ => c.length - (intOf i).toNat)
    case atStart => exact ⟨0, Nat.zero_le _, rfl, rfl⟩
    case round =>
      obtain ⟨k, hk, rfl, rfl⟩ := hrel
      by_cases hlt : k < c.length
      · have c0 := hns k hlt
        rw [Nat.zero_add] at c0
        have c1 := HLT.out k hlt
        generalize c.getD k 0 = x at *
        have d1 : decide ((x : Int) < 0) = false := decide_eq_false (by omega)
        have d2 : decide ((l.length : Int) ≤ (x : Int)) = false := decide_eq_false (by omega)
        have d3 : ¬ l.length ≤ x := by omega
        go_wp2
        go_roundw
        case rel => exact ⟨k + 1, by omega, by go_num, trivial⟩
        case measure => simp [intOf]; omega
      · go_wp2
        go_meet
        case rel => rfl
  case rest =>
    as_aux_lemma =>
    subst hcut
    generalize wc = W2 at *
    have AR := area_any g gc g8 c8 l c W2 hl60 (by omega) HN.out HLT.out hgs hps hg8 hns
    have hfz := FO.out.nz
    have hfb := fan_bd HN.out HLT.out c.length (Nat.le_refl _)
    have hst := psum_all l ts
    rw [show lsum (tval l) ts = fan (cp l c) c.length from FO.out.area] at hst
    have HST : Hid (psum l ts ts.length = fan (cp l c) c.length) := hst
    clear hst
    generalize fan (cp l c) c.length = FN at *
    have fz : (FN == 0) = false := beq_eq_false_iff_ne.2 hfz
    go_upto_region 12 with (go_at_call 29; refine AR.mono ?_; rintro e w3 ⟨rfl, hb3⟩)
    clear AR
    have hps3 := hps.below hb3 hgs
    have hts3 := hts.below hb3 hgts
    have hns3 := hns.below hb3 hg8
    have hg83 := Nat.lt_of_lt_of_le hg8 hb3.size
    have hgs3 := Nat.lt_of_lt_of_le hgs hb3.size
    have hgts3 := Nat.lt_of_lt_of_le hgts hb3.size
    have hbw3 := hb2.trans (hb3.mono hb2.size)
    clear hps hts hns hg8 hgs hgts hb2 hb3 fz hfz
    generalize w3 = W3 at *
    go_upto_block 2 with fail
    go_cut [9, 10] (fun s9 _ wx => s9 = .int .i64 (rimN l (cp l c) c.length l.length : Nat) ∧ Below W3.heap.size W3 wx)
    case first =>
      as_aux_lemma =>
      clear hts3 HST
      go_wp2_with fail
      go_loopw [9, 10] (fun s9 i wr => ∃ k : Nat, k ≤ l.length ∧ i = .int .i64 k ∧ s9 = .int .i64 (rimN l (cp l c) c.length k : Nat) ∧ Below W3.heap.size W3 wr) (fun _ i _ => l.length - (intOf i).toNat)
      case atStart => exact ⟨0, Nat.zero_le _, rfl, rfl, Below.refl _ _⟩
      case round =>
        obtain ⟨k, hk, rfl, rfl, hb⟩ := hrel
        by_cases hlt : k < l.length
        · have hrl := rimN_le l (cp l c) c.length k
          have HRS : Hid (rimN l (cp l c) c.length (k + 1) = rimN l (cp l c) c.length k + (if onB l (cp l c) c.length k = true then 1 else 0)) := rimN_succ l (cp l c) c.length k
          generalize rimN l (cp l c) c.length k = R at *
          go_wp2_with fail
          generalize wr = Wx at *
          go_loopw [11, 12] (fun s11 s12 wx => ∃ j : Nat, j ≤ c.length ∧ s12 = .int .i64 j ∧ s11 = .bool (onP l (cp l c) c.length j k) ∧ Below W3.heap.size W3 wx) (fun _ i _ => c.length - (intOf i).toNat)
          case atStart => exact ⟨0, Nat.zero_le _, rfl, rfl, hb⟩
          case round =>
            obtain ⟨j, hj, rfl, rfl, hbj⟩ := hrel
            clear hb
            by_cases hjl : j < c.length
            · have hm : (j + 1) % c.length < c.length := Nat.mod_lt _ (by omega)
              have hx := HLT.out j hjl
              have hy := HLT.out _ hm
              have HOS : Hid (onP l (cp l c) c.length (j + 1) k = (onP l (cp l c) c.length j k || decide (sd (ptAt l (c.getD j 0)) (ptAt l (c.getD ((j + 1) % c.length) 0)) (ptAt l k) = 0))) := onP_succ l (cp l c) c.length j k
              have z6 : IntKind.i64.wrap ((j : Int) + 1) = (j : Int) + 1 := wrap_id (by omega) (by omega)
              generalize hb0 : onP l (cp l c) c.length j k = b0 at *
              cases b0 with
              | true =>
                go_wp2_with fail
                go_quiet (fail)
                go_wp2
                go_roundw
                case rel => exact ⟨j + 1, by omega, by go_num, by rw [HOS.out]; rfl, below_drewN hbj⟩
                case measure => simp [intOf]; omega
              | false =>
                have hnr := hns3.below hbj hg83
                have hpr := hps3.below hbj hgs3
                have c0 := hnr j hjl
                have c1 := hnr _ hm
                obtain ⟨d0, d1⟩ := hpr _ hx
                obtain ⟨d2, d3⟩ := hpr _ hy
                obtain ⟨d4, d5⟩ := hpr _ hlt
                rw [Nat.zero_add] at c0 c1 d0 d1 d2 d3 d4 d5
                have nA : Near (l.getD (c.getD j 0) (0, 0)).1 (l.getD (c.getD j 0) (0, 0)).2 := HN.out _ hx
                have nB : Near (l.getD (c.getD ((j + 1) % c.length) 0) (0, 0)).1 (l.getD (c.getD ((j + 1) % c.length) 0) (0, 0)).2 := HN.out _ hy
                have nC : Near (l.getD k (0, 0)).1 (l.getD k (0, 0)).2 := HN.out _ hlt
                have SC := fun W => kside_any _ _ _ _ _ _ W nA nB nC
                rw [sd_side] at HOS
                clear nA nB nC hnr hpr
                generalize c.getD j 0 = x at *
                generalize c.getD ((j + 1) % c.length) 0 = y at *
                have hrem : ((j : Int) + 1).tmod (c.length : Int) = (((j + 1) % c.length : Nat) : Int) := by
                  rw [Int.tmod_eq_emod_of_nonneg (by omega)]; rfl
                generalize (j + 1) % c.length = m at *
                generalize sideN (l.getD x (0, 0)).1 (l.getD x (0, 0)).2 (l.getD y (0, 0)).1 (l.getD y (0, 0)).2 (l.getD k (0, 0)).1 (l.getD k (0, 0)).2 = S at *
                generalize (l.getD x (0, 0)).1 = ax at *
                generalize (l.getD x (0, 0)).2 = ay at *
                generalize (l.getD y (0, 0)).1 = bx at *
                generalize (l.getD y (0, 0)).2 = by2 at *
                generalize (l.getD k (0, 0)).1 = cx at *
                generalize (l.getD k (0, 0)).2 = cy at *
                have y0 : (0 : Int) ≤ (j : Int) := by omega
                have y1 : (j : Int) < (c.length : Int) := by omega
                have y2 : (0 : Int) ≤ (m : Int) := by omega
                have y3 : (m : Int) < (c.length : Int) := by omega
                have y4 : (0 : Int) ≤ (x : Int) := by omega
                have y5 : (x : Int) < (l.length : Int) := by omega
                have y6 : (0 : Int) ≤ (y : Int) := by omega
                have y7 : (y : Int) < (l.length : Int) := by omega
                have y8 : (0 : Int) ≤ (k : Int) := by omega
                have y11 : (k : Int) < (l.length : Int) := by omega
                have y9 : ((c.length : Int) == 0) = false := beq_eq_false_iff_ne.2 (by omega)
                have y10 : ¬ c.length = 0 := by omega
                have g8r : g8 < wr.heap.size := Nat.lt_of_lt_of_le hg83 hbj.size
                have gr : g < wr.heap.size := Nat.lt_of_lt_of_le hgs3 hbj.size
                have HS : Hid (onP l (cp l c) c.length (j + 1) k = decide (S = 0)) := HOS.out.trans (Bool.false_or _)
                clear HOS hb0
                by_cases hS0 : S = 0
                · have e1 : (S == 0) = true := by rw [hS0]; rfl
                  have HS' : Hid (onP l (cp l c) c.length (j + 1) k = true) := by have := HS.out; rw [decide_eq_true hS0] at this; exact this
                  clear HS hS0
                  go_wp2_with fail
                  go_region_held3 (fun w' => Below wr.heap.size wr w' ∧ ∀ b o, b < wr.heap.size → w'.cell? ⟨b, o, none⟩ = wr.cell? ⟨b, o, none⟩) (first | exact keep0 _ | exact keep1 (by assumption) hb1)
                    (first | (go_at_call 19; refine (SC _).mono ?_; rintro e w' ⟨rfl, hb1⟩))
                  rename_i hSS
                  have hbj2 := hbj.trans (hSS.1.mono hbj.size)
                  clear hSS hb1 SC c0 c1 d0 d1 d2 d3 d4 d5
                  go_wp2
                  go_roundw
                  case rel => exact ⟨j + 1, by omega, by go_num, by rw [HS'.out], hbj2⟩
                  case measure => simp [intOf]; omega
                · have e1 : (S == 0) = false := beq_eq_false_iff_ne.2 hS0
                  have HS' : Hid (onP l (cp l c) c.length (j + 1) k = false) := by have := HS.out; rw [decide_eq_false hS0] at this; exact this
                  clear HS hS0
                  go_wp2_with fail
                  go_region_held3 (fun w' => Below wr.heap.size wr w' ∧ ∀ b o, b < wr.heap.size → w'.cell? ⟨b, o, none⟩ = wr.cell? ⟨b, o, none⟩) (first | exact keep0 _ | exact keep1 (by assumption) hb1)
                    (first | (go_at_call 19; refine (SC _).mono ?_; rintro e w' ⟨rfl, hb1⟩))
                  rename_i hSS
                  have hbj2 := hbj.trans (hSS.1.mono hbj.size)
                  clear hSS hb1 SC c0 c1 d0 d1 d2 d3 d4 d5
                  go_wp2
                  go_roundw
                  case rel => exact ⟨j + 1, by omega, by go_num, by rw [HS'.out], hbj2⟩
                  case measure => simp [intOf]; omega
            · have hje : j = c.length := by omega
              subst hje
              have hrs := HRS.out
              rw [← onP_all] at hrs
              have z6 : IntKind.i64.wrap ((k : Int) + 1) = (k : Int) + 1 := wrap_id (by omega) (by omega)
              have z7 : IntKind.i64.wrap ((R : Int) + 1) = (R : Int) + 1 := wrap_id (by omega) (by omega)
              generalize onP l (cp l c) c.length c.length k = b0 at *
              cases b0 with
              | true =>
                have HR2 : Hid (rimN l (cp l c) c.length (k + 1) = R + 1) := hrs
                clear hrs HRS
                go_wp2
                go_roundw
                case rel => exact ⟨k + 1, by omega, by go_num, by rw [HR2.out]; go_num, hbj⟩
                case measure => simp [intOf]; omega
              | false =>
                have HR2 : Hid (rimN l (cp l c) c.length (k + 1) = R) := hrs
                clear hrs HRS
                go_wp2
                go_roundw
                case rel => exact ⟨k + 1, by omega, by go_num, by rw [HR2.out], hbj⟩
                case measure => simp [intOf]; omega
        · have hke : k = l.length := by omega
          subst hke
          go_wp2
          go_meet
          case rel => exact ⟨rfl, hb⟩
    case rest =>
      as_aux_lemma =>
      obtain ⟨rfl, hbx⟩ := hcut
      have hcnt := FO.out.cnt
      have hrl := rimN_le l (cp l c) c.length l.length
      generalize rimN l (cp l c) c.length l.length = R at *
      have hps := hps3.below hbx hgs3
      have hts := hts3.below hbx hgts3
      have hgs := Nat.lt_of_lt_of_le hgs3 hbx.size
      have hgts := Nat.lt_of_lt_of_le hgts3 hbx.size
      have hbw := hbw3.trans (hbx.mono hbw3.size)
      clear hps3 hts3 hgs3 hgts3 hbw3 hbx hns3 hg83
      generalize wc = W4 at *
      have q1 : IntKind.i64.wrap (2 * (l.length : Int)) = 2 * (l.length : Int) := wrap_id (by omega) (by omega)
      have q2 : IntKind.i64.wrap (2 * (l.length : Int) - 2) = 2 * (l.length : Int) - 2 := wrap_id (by omega) (by omega)
      have q3 : IntKind.i64.wrap (2 * (l.length : Int) - 2 - (R : Int)) = 2 * (l.length : Int) - 2 - (R : Int) := wrap_id (by omega) (by omega)
      have q4 : ((ts.length : Int) != 2 * (l.length : Int) - 2 - (R : Int)) = false := by
        have : (ts.length : Int) = 2 * (l.length : Int) - 2 - (R : Int) := by omega
        rw [this]; simp
      go_upto_block 6 with fail
      clear q1 q2 q3 q4 hcnt
      obtain ⟨W5, hW5, hU5, hb5⟩ : ∃ W5, W4.alloc (.cells #[.bool false, .bool false, .bool false, .bool false, .bool false, .bool false, .bool false, .bool false, .bool false, .bool false, .bool false, .bool false, .bool false, .bool false, .bool false, .bool false, .bool false, .bool false, .bool false, .bool false, .bool false, .bool false, .bool false, .bool false, .bool false, .bool false, .bool false, .bool false, .bool false, .bool false, .bool false, .bool false, .bool false, .bool false, .bool false, .bool false, .bool false, .bool false, .bool false, .bool false, .bool false, .bool false, .bool false, .bool false, .bool false, .bool false, .bool false, .bool false, .bool false, .bool false, .bool false, .bool false, .bool false, .bool false, .bool false, .bool false, .bool false, .bool false, .bool false, .bool false] 67) = W5 ∧ UsedAt W5 W4.heap.size ts 0 ∧ Below W4.heap.size W4 W5 := ⟨_, rfl, used_new W4 ts, below1 _ _⟩
      rw [hW5]
      have hps5 := hps.below hb5 hgs
      have hts5 := hts.below hb5 hgts
      have hbw5 := hbw.trans (hb5.mono hbw.size)
      have hwU := hbw.size
      clear hW5 hps hts hbw hb5 hrl hcl hcp
      generalize W4.heap.size = U at *
      go_cut [8, 14] (fun s8 _ wx => s8 = .int .i64 0 ∧ UsedAt wx U ts ts.length ∧ Below w.heap.size w wx)
      case first =>
        as_aux_lemma =>
        go_wp2_with fail
        go_loopw [8, 14] (fun s8 i wr => ∃ k : Nat, k ≤ ts.length ∧ i = .int .i64 k ∧ s8 = .int .i64 (FN - psum l ts k) ∧ UsedAt wr U ts k ∧ PtsAt wr g 0 l ∧ TrisAt wr gt ts ∧ Below w.heap.size w wr) (fun _ i _ => ts.length - (intOf i).toNat)
        case atStart => exact ⟨0, Nat.zero_le _, rfl, by simp [psum, lsum], hU5, hps5, hts5, hbw5⟩
        case round =>
          clear hU5 hps5 hts5 hbw5
          obtain ⟨k, hk, rfl, rfl, hU, hps, hts, hbw⟩ := hrel
          by_cases hlt : k < ts.length
          · obtain ⟨x, y, z, hxyz, hxy, hxz, hyl, hzl, hsd, hcc⟩ := tri_at FO.out hlt
            have hps1 := psum_succ l ts k hlt
            have pb0 := psum_bd FO.out HN.out k (by omega)
            have pb1 := psum_bd FO.out HN.out (k + 1) (by omega)
            rw [hxyz, show tval l ((x : Int), (y : Int), (z : Int)) = sd (ptAt l x) (ptAt l y) (ptAt l z) by unfold tval pOf; simp only [Int.toNat_natCast]] at hps1
            have HXYZ : Hid (ts.getD k (0, 0, 0) = ((x : Int), (y : Int), (z : Int))) := hxyz
            have HCC : Hid (∀ d, d < l.length → cc (ptAt l x) (ptAt l y) (ptAt l z) (ptAt l d) ≤ 0) := hcc
            have hUl := hU.lt
            have ggt : gt < wr.heap.size := by omega
            have gg : g < wr.heap.size := by omega
            obtain ⟨t0, t1, t2⟩ := hts k hlt
            rw [hxyz] at t0 t1 t2
            dsimp only at t0 t1 t2
            clear hxyz hcc
            obtain ⟨d0, d1⟩ := hps x (by omega)
            obtain ⟨d2, d3⟩ := hps y hyl
            obtain ⟨d4, d5⟩ := hps z hzl
            rw [Nat.zero_add] at d0 d1 d2 d3 d4 d5
            have nA : Near (l.getD x (0, 0)).1 (l.getD x (0, 0)).2 := HN.out _ (by omega)
            have nB : Near (l.getD y (0, 0)).1 (l.getD y (0, 0)).2 := HN.out _ hyl
            have nC : Near (l.getD z (0, 0)).1 (l.getD z (0, 0)).2 := HN.out _ hzl
            have SC := fun W => kside_any _ _ _ _ _ _ W nA nB nC
            rw [sd_side] at hps1 hsd
            have HPS : Hid (psum l ts (k + 1) = psum l ts k + sideN (l.getD x (0, 0)).1 (l.getD x (0, 0)).2 (l.getD y (0, 0)).1 (l.getD y (0, 0)).2 (l.getD z (0, 0)).1 (l.getD z (0, 0)).2) := hps1
            rw [hps1] at pb1
            clear hps1 nA nB nC
            generalize psum l ts k = P at *
            generalize sideN (l.getD x (0, 0)).1 (l.getD x (0, 0)).2 (l.getD y (0, 0)).1 (l.getD y (0, 0)).2 (l.getD z (0, 0)).1 (l.getD z (0, 0)).2 = S at *
            generalize (l.getD x (0, 0)).1 = ax at *
            generalize (l.getD x (0, 0)).2 = ay at *
            generalize (l.getD y (0, 0)).1 = bx at *
            generalize (l.getD y (0, 0)).2 = by2 at *
            generalize (l.getD z (0, 0)).1 = cx at *
            generalize (l.getD z (0, 0)).2 = cy at *
            have y0 : (0 : Int) ≤ (k : Int) := by omega
            have y1 : (k : Int) < (ts.length : Int) := by omega
            have y2 : (0 : Int) ≤ (x : Int) := by omega
            have y3 : (x : Int) < (l.length : Int) := by omega
            have y4 : (0 : Int) ≤ (y : Int) := by omega
            have y5 : (y : Int) < (l.length : Int) := by omega
            have y6 : (0 : Int) ≤ (z : Int) := by omega
            have y7 : (z : Int) < (l.length : Int) := by omega
            have f1 : decide ((x : Int) < 0) = false := decide_eq_false (by omega)
            have f2 : decide ((y : Int) ≤ (x : Int)) = false := decide_eq_false (by omega)
            have f3 : decide ((z : Int) ≤ (x : Int)) = false := decide_eq_false (by omega)
            have f4 : decide ((l.length : Int) ≤ (y : Int)) = false := decide_eq_false (by omega)
            have f5 : decide ((l.length : Int) ≤ (z : Int)) = false := decide_eq_false (by omega)
            have f2' : ¬ y ≤ x := by omega
            have f3' : ¬ z ≤ x := by omega
            have f4' : ¬ l.length ≤ y := by omega
            have f5' : ¬ l.length ≤ z := by omega
            have f6 : decide (S ≤ 0) = false := decide_eq_false (by omega)
            have f7 : IntKind.i64.wrap (FN - P - S) = FN - P - S := wrap_id (by omega) (by omega)
            go_wp2_with fail
            go_quiet (fail)
            go_wp2_with fail
            have hUv : UsedAt (wr.drewN nq) U ts k := ⟨hU.at_⟩
            have hpv : PtsAt (wr.drewN nq) g 0 l := hps
            have htv : TrisAt (wr.drewN nq) gt ts := hts
            have hbv : Below w.heap.size w (wr.drewN nq) := below_drewN hbw
            have gv : g < (wr.drewN nq).heap.size := gg
            have gtv : gt < (wr.drewN nq).heap.size := ggt
            have e0 : (wr.drewN nq).cell? ⟨g, x * 2, none⟩ = some (.int .i64 ax) := d0
            have e1 : (wr.drewN nq).cell? ⟨g, x * 2 + 1, none⟩ = some (.int .i64 ay) := d1
            have e2 : (wr.drewN nq).cell? ⟨g, y * 2, none⟩ = some (.int .i64 bx) := d2
            have e3 : (wr.drewN nq).cell? ⟨g, y * 2 + 1, none⟩ = some (.int .i64 by2) := d3
            have e4 : (wr.drewN nq).cell? ⟨g, z * 2, none⟩ = some (.int .i64 cx) := d4
            have e5 : (wr.drewN nq).cell? ⟨g, z * 2 + 1, none⟩ = some (.int .i64 cy) := d5
            clear t0 t1 t2 d0 d1 d2 d3 d4 d5 hU hps hts hbw gg ggt hUl f1 f2 f3 f4 f5 f2' f3' f4' f5'
            generalize wr.drewN nq = V at *
            go_region_held3 (fun w' => Below V.heap.size V w' ∧ ∀ b o, b < V.heap.size → w'.cell? ⟨b, o, none⟩ = V.cell? ⟨b, o, none⟩) (first | exact keep0 _ | exact keep1 (by assumption) hb1)
              (first | (go_at_call 19; refine (SC _).mono ?_; rintro e w' ⟨rfl, hb1⟩))
            rename_i hSS
            have hU2 := hUv.below hSS.1
            have hps2 := hpv.below hSS.1 gv
            have hts2 := htv.below hSS.1 gtv
            have hbw2 := hbv.trans (hSS.1.mono hbv.size)
            have g2 := Nat.lt_of_lt_of_le gv hSS.1.size
            have gt2 := Nat.lt_of_lt_of_le gtv hSS.1.size
            clear hSS hb1 SC e0 e1 e2 e3 e4 e5 hUv hpv htv hbv gv gtv
            generalize w' = V2 at *
            go_upto_block 8 with fail
            clear f6 f7
            go_cut [19] (fun _ wx => Below V2.heap.size V2 wx)
            case first =>
              as_aux_lemma =>
              clear HCC HPS hsd HST hps2 hU2
              go_wp2_with fail
              generalize wr = Wx at *
              go_loopw [19] (fun i wx => ∃ j : Nat, j ≤ k ∧ i = .int .i64 j ∧ Below V2.heap.size V2 wx) (fun i _ => k - (intOf i).toNat)
              case atStart => exact ⟨0, Nat.zero_le _, rfl, Below.refl _ _⟩
              case round =>
                obtain ⟨j, hj, rfl, hbj⟩ := hrel
                by_cases hjl : j < k
                · obtain ⟨a0, a1, a2⟩ := (hts2.below hbj gt2) j (by omega)
                  obtain ⟨b0, b1, b2⟩ := (hts2.below hbj gt2) k hlt
                  have hal := pw_get FO.out.alg hjl hlt
                  have AC := fun W => along_any _ _ W hal
                  clear hal HXYZ
                  have gr : gt < wr.heap.size := Nat.lt_of_lt_of_le gt2 hbj.size
                  clear hts2 FO
                  generalize ts.getD j (0, 0, 0) = p at *
                  generalize ts.getD k (0, 0, 0) = q at *
                  generalize p.1 = p0 at *
                  generalize p.2.1 = p1 at *
                  generalize p.2.2 = p2 at *
                  generalize q.1 = q0 at *
                  generalize q.2.1 = q1 at *
                  generalize q.2.2 = q2 at *
                  have x0 : (0 : Int) ≤ (j : Int) := by omega
                  have x1 : (j : Int) < (ts.length : Int) := by omega
                  have x2 : (j : Int) < (k : Int) := by omega
                  have x3 : IntKind.i64.wrap ((j : Int) + 1) = (j : Int) + 1 := wrap_id (by omega) (by omega)
                  go_wp2_with fail
                  go_region_held3 (fun w' => Below wr.heap.size wr w' ∧ ∀ b o, b < wr.heap.size → w'.cell? ⟨b, o, none⟩ = wr.cell? ⟨b, o, none⟩) (first | exact keep0 _ | exact keep1 (by assumption) hb1)
                    (first | (go_at_call 30; refine (AC _).mono ?_; rintro e w' ⟨rfl, hb1⟩))
                  rename_i hSS
                  have hbj2 := hbj.trans (hSS.1.mono hbj.size)
                  clear hSS hb1 AC a0 a1 a2 b0 b1 b2
                  go_wp2
                  go_roundw
                  case rel => exact ⟨j + 1, by omega, by go_num, hbj2⟩
                  case measure => simp [intOf]; omega
                · go_wp2
                  go_meet
                  case rel => exact hbj
            case rest =>
              as_aux_lemma =>
              have hU3 := hU2.below hcut
              have hps3 := hps2.below hcut g2
              have hts3 := hts2.below hcut gt2
              have hbw3 := hbw2.trans (hcut.mono hbw2.size)
              have g3 := Nat.lt_of_lt_of_le g2 hcut.size
              have gt3 := Nat.lt_of_lt_of_le gt2 hcut.size
              clear hcut hU2 hps2 hts2 hbw2 g2 gt2
              generalize wc = V3 at *
              obtain ⟨V4, V5, V6, hV4, hV5, hV6, s0, r0, ⟨v1, s1⟩, r1, ⟨v2, s2⟩, r2, hU6, hsz6, hb6, hc6⟩ := hU3.put hlt HXYZ.out (by omega) (by omega) (by omega)
              have hps6 : PtsAt V6 g 0 l := fun j hj => ⟨(hc6 g _ (by omega)).trans (hps3 j hj).1, (hc6 g _ (by omega)).trans (hps3 j hj).2⟩
              have hts6 : TrisAt V6 gt ts := fun j hj => ⟨(hc6 gt _ (by omega)).trans (hts3 j hj).1, (hc6 gt _ (by omega)).trans (hts3 j hj).2.1, (hc6 gt _ (by omega)).trans (hts3 j hj).2.2⟩
              have hbw6 : Below w.heap.size w V6 := hbw3.trans (hb6 w.heap.size hwU)
              have g6 : g < V6.heap.size := by omega
              have gt6 : gt < V6.heap.size := by omega
              have h60a : (x : Int) < 60 := by omega
              have h60b : (y : Int) < 60 := by omega
              have h60c : (z : Int) < 60 := by omega
              have h60d : x < 60 := by omega
              have h60e : y < 60 := by omega
              have h60f : z < 60 := by omega
              clear hU3 hps3 hts3 hbw3 g3 gt3 hsz6 hb6 hc6
              go_upto_region 43 with fail
              clear s0 r0 hV4
              go_upto_region 44 with fail
              clear s1 r1 hV5
              go_upto_region 45 with fail
              clear s2 r2 hV6 h60a h60b h60c h60d h60e h60f
              go_upto_block 10 with fail
              go_cut [21] (fun _ wx => Below V6.heap.size V6 wx)
              case first =>
                as_aux_lemma =>
                clear HPS hsd HST hU6 hts6 HXYZ FO
                go_wp2_with fail
                generalize wr = Wx at *
                go_loopw [21] (fun i wx => ∃ j : Nat, j ≤ l.length ∧ i = .int .i64 j ∧ Below V6.heap.size V6 wx) (fun i _ => l.length - (intOf i).toNat)
                case atStart => exact ⟨0, Nat.zero_le _, rfl, Below.refl _ _⟩
                case round =>
                  obtain ⟨j, hj, rfl, hbj⟩ := hrel
                  by_cases hjl : j < l.length
                  · have hpr := hps6.below hbj g6
                    obtain ⟨d0, d1⟩ := hpr x (by omega)
                    obtain ⟨d2, d3⟩ := hpr y hyl
                    obtain ⟨d4, d5⟩ := hpr z hzl
                    obtain ⟨d6, d7⟩ := hpr j hjl
                    rw [Nat.zero_add] at d0 d1 d2 d3 d4 d5 d6 d7
                    have nA : Near (l.getD x (0, 0)).1 (l.getD x (0, 0)).2 := HN.out _ (by omega)
                    have nB : Near (l.getD y (0, 0)).1 (l.getD y (0, 0)).2 := HN.out _ hyl
                    have nC : Near (l.getD z (0, 0)).1 (l.getD z (0, 0)).2 := HN.out _ hzl
                    have nD : Near (l.getD j (0, 0)).1 (l.getD j (0, 0)).2 := HN.out _ hjl
                    have hcc : cc ((l.getD x (0, 0)).1, (l.getD x (0, 0)).2) ((l.getD y (0, 0)).1, (l.getD y (0, 0)).2) ((l.getD z (0, 0)).1, (l.getD z (0, 0)).2) ((l.getD j (0, 0)).1, (l.getD j (0, 0)).2) ≤ 0 := HCC.out j hjl
                    have WC := fun W => within_no _ _ _ _ _ _ _ _ W nA nB nC nD hcc
                    have gr : g < wr.heap.size := Nat.lt_of_lt_of_le g6 hbj.size
                    clear nA nB nC nD hcc hpr hps6 HCC
                    generalize (l.getD x (0, 0)).1 = ax at *
                    generalize (l.getD x (0, 0)).2 = ay at *
                    generalize (l.getD y (0, 0)).1 = bx at *
                    generalize (l.getD y (0, 0)).2 = by2 at *
                    generalize (l.getD z (0, 0)).1 = cx at *
                    generalize (l.getD z (0, 0)).2 = cy at *
                    generalize (l.getD j (0, 0)).1 = dx at *
                    generalize (l.getD j (0, 0)).2 = dy at *
                    have x0 : (0 : Int) ≤ (j : Int) := by omega
                    have x1 : (j : Int) < (l.length : Int) := by omega
                    have x3 : IntKind.i64.wrap ((j : Int) + 1) = (j : Int) + 1 := wrap_id (by omega) (by omega)
                    go_wp2_with fail
                    go_region_held3 (fun w' => Below wr.heap.size wr w' ∧ ∀ b o, b < wr.heap.size → w'.cell? ⟨b, o, none⟩ = wr.cell? ⟨b, o, none⟩) (first | exact keep0 _ | exact keep1 (by assumption) hb1)
                      (first | (go_at_call 31; refine (WC _).mono ?_; rintro e w' ⟨rfl, hb1⟩))
                    rename_i hSS
                    have hbj2 := hbj.trans (hSS.1.mono hbj.size)
                    clear hSS hb1 WC d0 d1 d2 d3 d4 d5 d6 d7
                    go_wp2
                    go_roundw
                    case rel => exact ⟨j + 1, by omega, by go_num, hbj2⟩
                    case measure => simp [intOf]; omega
                  · go_wp2
                    go_meet
                    case rel => exact hbj
              case rest =>
                as_aux_lemma =>
                have hU7 := hU6.below hcut
                have hps7 := hps6.below hcut g6
                have hts7 := hts6.below hcut gt6
                have hbw7 := hbw6.trans (hcut.mono hbw6.size)
                clear hcut hU6 hps6 hts6 hbw6 g6 gt6 HCC
                generalize wc = V7 at *
                have x3 : IntKind.i64.wrap ((k : Int) + 1) = (k : Int) + 1 := wrap_id (by omega) (by omega)
                have HV8 : Hid (FN - P - S = FN - psum l ts (k + 1)) := by have := HPS.out; show FN - P - S = FN - psum l ts (k + 1); omega
                have HIV : Hid (UsedAt V7 U ts (k + 1) ∧ PtsAt V7 g 0 l ∧ TrisAt V7 gt ts ∧ Below w.heap.size w V7) := ⟨hU7, hps7, hts7, hbw7⟩
                clear hU7 hps7 hbw7 HPS
                by_cases hk0 : k = 0
                · have f0 : decide ((0 : Int) < (k : Int)) = false := decide_eq_false (by omega)
                  clear hts7
                  go_wp2
                  go_roundw
                  case rel => exact ⟨k + 1, by omega, by go_num, congrArg (Value.int .i64) HV8.out, HIV.out.1, HIV.out.2.1, HIV.out.2.2.1, HIV.out.2.2.2⟩
                  case measure => simp [intOf]; omega
                · obtain ⟨j, rfl⟩ : ∃ j, k = j + 1 := ⟨k - 1, by omega⟩
                  obtain ⟨t0, t1, t2⟩ := hts7 j (by omega)
                  have hl3 := pw_get FO.out.srt (show j < j + 1 by omega) hlt
                  rw [HXYZ.out] at hl3
                  unfold t3lt at hl3
                  dsimp only at hl3
                  clear hts7 HXYZ FO
                  generalize (ts.getD j (0, 0, 0)).1 = p at *
                  generalize (ts.getD j (0, 0, 0)).2.1 = q at *
                  generalize (ts.getD j (0, 0, 0)).2.2 = r at *
                  have x4 : IntKind.i64.wrap (j : Int) = (j : Int) := wrap_id (by omega) (by omega)
                  have x5 : (0 : Int) < (j : Int) + 1 := by omega
                  have x6 : (0 : Int) ≤ (j : Int) := by omega
                  have x7 : (j : Int) < (ts.length : Int) := by omega
                  rcases hl3 with h | ⟨h, h' | ⟨h', h''⟩⟩
                  · have b1 : decide ((x : Int) < p) = false := decide_eq_false (by omega)
                    have b2 : (p == (x : Int)) = false := beq_eq_false_iff_ne.2 (by omega)
                    clear h
                    go_wp2
                    go_roundw
                    case rel => exact ⟨j + 1 + 1, by omega, by go_num, congrArg (Value.int .i64) HV8.out, HIV.out.1, HIV.out.2.1, HIV.out.2.2.1, HIV.out.2.2.2⟩
                    case measure => simp [intOf]; omega
                  · subst h
                    have b1 : decide ((x : Int) < (x : Int)) = false := decide_eq_false (by omega)
                    have b3 : decide ((y : Int) < q) = false := decide_eq_false (by omega)
                    have b4 : (q == (y : Int)) = false := beq_eq_false_iff_ne.2 (by omega)
                    clear h'
                    go_wp2
                    go_roundw
                    case rel => exact ⟨j + 1 + 1, by omega, by go_num, congrArg (Value.int .i64) HV8.out, HIV.out.1, HIV.out.2.1, HIV.out.2.2.1, HIV.out.2.2.2⟩
                    case measure => simp [intOf]; omega
                  · subst h
                    subst h'
                    have b1 : decide ((x : Int) < (x : Int)) = false := decide_eq_false (by omega)
                    have b3 : decide ((y : Int) < (y : Int)) = false := decide_eq_false (by omega)
                    have b5 : decide ((z : Int) ≤ r) = false := decide_eq_false (by omega)
                    clear h''
                    go_wp2
                    go_roundw
                    case rel => exact ⟨j + 1 + 1, by omega, by go_num, congrArg (Value.int .i64) HV8.out, HIV.out.1, HIV.out.2.1, HIV.out.2.2.1, HIV.out.2.2.2⟩
                    case measure => simp [intOf]; omega
          · have hke : k = ts.length := by omega
            subst hke
            go_wp2
            go_meet
            case rel => exact ⟨by rw [HST.out, Int.sub_self], hU, hbw⟩
      case rest =>
        as_aux_lemma =>
        obtain ⟨rfl, hUe, hbe⟩ := hcut
        have HUS : Hid (∀ k, k < l.length → usedB ts ts.length k = true) := fun k hk => usedB_all (FO.out.used k hk)
        clear hU5 hps5 hts5 hbw5
        generalize wc = V8 at *
        go_wp2_with fail
        go_loopw [23] (fun i wr => ∃ k : Nat, k ≤ l.length ∧ i = .int .i64 k ∧ wr = V8) (fun i _ => l.length - (intOf i).toNat)
        case atStart => exact ⟨0, Nat.zero_le _, rfl, rfl⟩
        case round =>
          obtain ⟨k, hk, rfl, rfl⟩ := hrel
          by_cases hlt : k < l.length
          · have c0 := (hUe.cell (k := k) (by omega)).1
            rw [HUS.out k hlt] at c0
            have x0 : (0 : Int) ≤ (k : Int) := by omega
            have x1 : (k : Int) < 60 := by omega
            have x2 : k < 60 := by omega
            have x3 : IntKind.i64.wrap ((k : Int) + 1) = (k : Int) + 1 := wrap_id (by omega) (by omega)
            go_wp2
            go_roundw
            case rel => exact ⟨k + 1, by omega, by go_num, trivial⟩
            case measure => simp [intOf]; omega
          · go_wp2
            go_ret
            exact ⟨rfl, hbe⟩
end Go.Proofs.YtgpapegpdfonpaaGreat
