/-
  The statement's part for meshes: World.locates.
-/
import Derived.Test.YtgpapegpdfonpaaGreatDoorMeshKL
set_option linter.unusedVariables false
set_option linter.unusedSimpArgs false
namespace Go.Proofs.YtgpapegpdfonpaaGreatDoor
open Go.RowKit
attribute [local go_sem ↓] Go.wp_at_zero Go.wp_at_succ
theorem APost.below {MAt : MeshPred} (L : MeshLaw MAt) {WB N : Nat} {v0 : Value} {w w' w'' : World} {tag : Nat → Nat} {iK iM : Nat} {d : KD} (h : APost MAt WB N v0 w w' tag iK iM d) (hb : Below w'.heap.size w' w'') : APost MAt WB N v0 w w'' tag iK iM d := by
 obtain ⟨tag', d', h1, ⟨⟨vP, vN, vT, h2⟩, h2'⟩, h3, h4, h5, h6⟩ := h
 exact ⟨tag', d', h1.below hb, ⟨⟨vP, vN, vT, h2.below hb⟩, L.frame _ _ _ _ _ _ _ h2' hb.size fun k hk ht => ⟨hb.block k hk, ht⟩⟩, h3, h4, h5, Chg.trans h6 (Chg.of_below (F := fun _ => False) hb) fun _ _ h => h.elim⟩
theorem locP_rng {l : List Pt} {ts : List T3} (hG : GoodT l ts) {p : Pt} {k a b c : Int} (h : LocP l ts (allJ l ts (flB l) l.length) p k a b c) : (-1 ≤ a ∧ a < l.length) ∧ (-1 ≤ b ∧ b < l.length) ∧ (-1 ≤ c ∧ c < l.length) := by
 rcases h with ⟨i, hi, e, r1, r2, r3, r4⟩ | ⟨hno, q, hq, hs, r1, r2, r3, r4⟩ | ⟨hno, hj, t, ht, hin, r1, r2, r3, r4⟩ | ⟨hno, hj, hti, r1, r2, r3, r4⟩
 ·omega
 ·have := mem_allJ.1 (show (q.1, q.2) ∈ _ from hq)
  omega
 ·have := hG.nums t ht
  omega
 ·omega
def upO (ns : List Int) (i j : Nat) (x : Int) : Int := if j < i then numO ns x else x
theorem numO_pos {ns : List Int} {j : Nat} : numO ns (j : Int) = ns.getD j 0 := by
 unfold numO
 rw [if_pos (by omega), Int.toNat_natCast]
theorem numO_neg {ns : List Int} {x : Int} (h : ¬ 0 ≤ x) : numO ns x = x := by
 unfold numO
 rw [if_neg h]
set_option maxRecDepth 100000 in
set_option maxHeartbeats 8000000 in
theorem locates_any {MAt : MeshPred} (L : MeshLaw MAt) (WB N iK iM : Nat) (v0 : Value) (tag : Nat → Nat) (d : KD) (px py : Int) (w : World) (hB : Bks w WB v0 tag N) (hN : N ≤ 925904528800) (hK : KM MAt w tag iK iM d) (h1 : 4 < iK) (h2 : 4 < iM) (h3 : iK ≠ iM) :
  Calls Tryz.prog 61 #[.pointer (some ⟨WB, 0, none⟩), .pointer (some ⟨d.K, 0, none⟩), .agg #[.int .i64 px, .int .i64 py]] w fun e w' => e = .returned (.bool true) ∧ APost MAt WB N v0 w w' tag iK iM d := by
 obtain ⟨⟨vP, vN, vT, hA⟩, hM⟩ := hK
 have OK : Hid d.s.Ok := L.ok _ _ _ _ _ hM
 have hlt := hB.tlt
 have hKl := hA.lt
 have hWB := hB.lt
 go_enter Tryz.func61, Tryz.ntmps61
 go_upto_region 1 with fail
 have hbb := below1 w (.cells #[.int .i64 px, .int .i64 py] 37)
 have x0 : (w.alloc (.cells #[.int .i64 px, .int .i64 py] 37)).cell? ⟨w.heap.size, 0, none⟩ = some (.int .i64 px) := by rw [World.cell?_alloc_at _ _ _ _ (by simp)]; rfl
 have x1 : (w.alloc (.cells #[.int .i64 px, .int .i64 py] 37)).cell? ⟨w.heap.size, 1, none⟩ = some (.int .i64 py) := by rw [World.cell?_alloc_at _ _ _ _ (by simp)]; rfl
 have hs0' : (w.alloc (.cells #[.int .i64 px, .int .i64 py] 37)).heap.size = w.heap.size + 1 := by simp
 generalize w.alloc (.cells #[.int .i64 px, .int .i64 py] 37) = W at *
 have hAW := hA.below hbb
 have hMW : MAt W tag iM d.mp d.s := L.frame _ _ _ _ _ _ _ hM hbb.size fun k hk ht => ⟨hbb.block k hk, ht⟩
 have hltW : Tagged W tag := fun k hk => by have := hlt k hk; omega
 have hBW := hB.below hbb
 have c0 := hAW.cells.1
 have htx : ∀ k, w.heap.size ≤ k → tag k = 0 := fun k hk => by
  by_cases e : tag k = 0
  ·exact e
  ·have := hlt _ e; omega
 have HT : ∀ V, Below W.heap.size W V → Calls Tryz.prog 102 #[.pointer (some ⟨d.mp, 0, none⟩), pv px py] V fun e w' => ∃ k a b c r, e = .returned (.tuple #[.agg #[.int .i64 k, .int .i64 a, .int .i64 b, .int .i64 c], .int .i64 r]) ∧ LocR d.s (px, py) k a b c r ∧ MPost MAt V w' tag iM d.mp d.s (.slice none 0 0) := fun V hV =>
  L.locate V tag iM d.mp d.s px py (by omega) (L.frame _ _ _ _ _ _ _ hMW hV.size fun k hk ht => ⟨hV.block k hk, ht⟩) (fun k hk => Nat.lt_of_lt_of_le (hltW k hk) hV.size)
 have HTB : Below W.heap.size W (W.alloc (.cells #[.int .i64 0, .int .i64 0, .int .i64 0, .int .i64 0] 155)).drew := (below1 _ _).drew
 have HTA : Below W.heap.size W W.drew := (Below.refl _ _).drew
 have HAW : Hid (KAt W tag iK d vP vN vT ∧ MAt W tag iM d.mp d.s ∧ Tagged W tag ∧ Below w.heap.size w W ∧ Bks W WB v0 tag N) := ⟨hAW, hMW, hltW, hbb, hBW⟩
 have HTX : Hid (∀ k, w.heap.size ≤ k → tag k = 0) := htx
 have hKW : d.K < W.heap.size := by omega
 have hxW : w.heap.size < W.heap.size := by omega
 clear hA hM hlt hAW hMW hltW hB hBW htx
 go_cut [7, 8] (fun s7 s8 wx => ∃ X k a b c r, s7 = .pointer (some ⟨X, 0, none⟩) ∧ s8 = .int .i64 r ∧ LocMid MAt W wx tag iM d.mp d.s (px, py) X k a b c r)
 case first =>
  as_aux_lemma =>
  have htg : ∀ k, W.heap.size ≤ k → tag k = 0 := fun k hk => HTX.out k (by omega)
  refine wp_region_inv (m := 12) (by kernel_rfl) (by kernel_rfl) (dsts := [some 15, some 16, some 17, some 18, some 19, some 20, some 14, some 21, some 22, some 7, none, some 8]) rfl (by kernel_rfl) (l := []) rfl (LocI MAt W tag iM d.mp d.K d.s px py) (LocI.start W) ?_ ?_
  ·refine flS (flS (flS (flS (flS (flS (flS (flS (flS (flS (flS (flS fl0 ?_) ?_) ?_) ?_) ?_) ?_) ?_) ?_) ?_) ?_) ?_) ?_
   all_goals intro Ls σ wx hS hp hdn hun
   ·exact (gives_move (x := .tmp 1) rfl rfl hS.s0).toS
   ·exact (gives_nil (x := .tmp 15) rfl (show σ 0 = _ from hS.v0 (hp 0 rfl)) hS.s1).toS
   ·exact (gives_field (T := 67) (x := .tmp 16) (f := 0) rfl (show σ 1 = _ from hS.v1 (hp 1 rfl)) (run_field_K0 _ _) hS.s2).toS
   ·have hL5 : Ls 5 = false := by
     cases hl : Ls 5 with
     | false => rfl
     | true => have := hdn 5 3 hl rfl; rw [hun] at this; cases this
    obtain ⟨hb, _⟩ := hS.pre hL5
    exact (gives_load (T := 63) (x := .tmp 17) rfl (show σ 2 = _ from hS.v2 (hp 2 rfl)) (run_load_mp _ _ _ ((hb.cell (p := ⟨d.K, 0, none⟩) hKW).trans c0)) hS.s3).toS
   ·have hL5 : Ls 5 = false := by
     cases hl : Ls 5 with
     | false => rfl
     | true => have := hdn 5 4 hl rfl; rw [hun] at this; cases this
    obtain ⟨hb, _⟩ := hS.pre hL5
    exact (gives_load (T := 37) (x := .tmp 5) rfl rfl (run_load_pt _ _ _ px py ((hb.cell (p := ⟨w.heap.size, 0, none⟩) hxW).trans x0) ((hb.cell (p := ⟨w.heap.size, 1, none⟩) hxW).trans x1)) hS.s4).toS
   ·have no : ∀ j, waits _ j 5 = true → Ls j = false := fun j hw => by
     cases hl : Ls j with
     | false => rfl
     | true => have := hdn j 5 hl hw; rw [hun] at this; cases this
    have n6 : Ls 6 = false := no 6 rfl
    have n7 : Ls 7 = false := by
     cases hl : Ls 7 with
     | false => rfl
     | true => have := hdn 7 6 hl rfl; rw [n6] at this; cases this
    have n8 : Ls 8 = false := by
     cases hl : Ls 8 with
     | false => rfl
     | true => have := hdn 8 6 hl rfl; rw [n6] at this; cases this
    have n10 : Ls 10 = false := by
     cases hl : Ls 10 with
     | false => rfl
     | true => have := hdn 10 7 hl rfl; rw [n7] at this; cases this
    have n11 : Ls 11 = false := by
     cases hl : Ls 11 with
     | false => rfl
     | true => have := hdn 11 8 hl rfl; rw [n8] at this; cases this
    have h3' : σ 3 = .pointer (some ⟨d.mp, 0, none⟩) := hS.v3 (hp 3 rfl)
    have h4' : σ 4 = pv px py := hS.v4 (hp 4 rfl)
    refine (gives_call (f := 102) (args := [.pointer (some ⟨d.mp, 0, none⟩), pv px py]) rfl rfl (by show [σ 3, σ 4] = _; rw [h3', h4']) (by go_simp) ((HT wx (hS.pre hun).1).mono ?_)).toS
    rintro e w' ⟨k, a, b, c, r, rfl, hloc, hp⟩
    exact ⟨_, rfl, hS.s5 htg (by omega) hun n6 n7 n8 n10 n11 hloc hp⟩
   ·exact (gives_move (x := .tmp 20) rfl rfl (hS.s6 (hp 5 rfl))).toS
   ·have h5 : Ls 5 = true := hdn 6 5 (hp 6 rfl) rfl
    obtain ⟨k, a, b, c, r, e5, hN⟩ := hS.s7 h5
    obtain ⟨_, _, _, _, _, _, q1, _, _, _, _, _, q7, _⟩ := hS.post h5
    have e6 : σ 6 = .tuple #[.agg #[.int .i64 k, .int .i64 a, .int .i64 b, .int .i64 c], .int .i64 r] := (q7 (hp 6 rfl)).trans e5
    exact (gives_extract (x := .tmp 14) (i := 0) rfl (show σ 6 = _ from e6) rfl hN).toS
   ·have h5 : Ls 5 = true := hdn 6 5 (hp 6 rfl) rfl
    obtain ⟨k, a, b, c, r, e5, hN⟩ := hS.s8 h5
    obtain ⟨_, _, _, _, _, _, q1, _, _, _, _, _, q7, _⟩ := hS.post h5
    have e6 : σ 6 = .tuple #[.agg #[.int .i64 k, .int .i64 a, .int .i64 b, .int .i64 c], .int .i64 r] := (q7 (hp 6 rfl)).trans e5
    exact (gives_extract (x := .tmp 14) (i := 1) rfl (show σ 6 = _ from e6) rfl hN).toS
   ·have n10 : Ls 10 = false := by
     cases hl : Ls 10 with
     | false => rfl
     | true => have := hdn 10 9 hl rfl; rw [hun] at this; cases this
    exact (gives_alloc (T := 155) rfl (run_alloc_place _) (hS.s9 L n10)).toS
   ·have h7 : Ls 7 = true := hp 7 rfl
    have h5 : Ls 5 = true := hdn 6 5 (hdn 7 6 h7 rfl) rfl
    obtain ⟨X, k, a, b, c, e9, e7, hX, hN⟩ := hS.s10 L htg (by omega) h5 h7 (hp 9 rfl) hun
    exact gives_store (T := 155) (x := .tmp 7) (y := .tmp 21) rfl (show σ 9 = _ from e9) (show σ 7 = _ from e7) (run_store_place _ _ _ _ _ _ hX) hN
   ·have h8 : Ls 8 = true := hp 8 rfl
    have h5 : Ls 5 = true := hdn 6 5 (hdn 8 6 h8 rfl) rfl
    obtain ⟨r, e8, hN⟩ := hS.s11 h5 h8
    exact (gives_assign (x := .tmp 22) rfl (show σ 8 = _ from e8) hN).toS
  ·intro Ls σ wx hS hall
   obtain ⟨k, a, b, c, r, tag1, q1, q2, q3, q4, q5, q6, q7, q8, q9, q10, q11⟩ := hS.post (hall 5 (by omega))
   obtain ⟨X, e1, e2, e3, _, e5⟩ := q11 (hall 9 (by omega))
   have e11 := q10 (hall 11 (by omega))
   refine ⟨?_⟩
   simp only [lay, Act.put, List.drop_succ_cons, List.drop_zero, List.setIfInBounds_toArray, List.set_cons_succ, List.set_cons_zero, e1, e11]
   have HR : Hid (LocMid MAt W wx tag iM d.mp d.s (px, py) X k a b c r) := ⟨q2, e5 (hall 10 (by omega)), e2, tag1, e3, q3, q4, q5, q6⟩
   clear q1 q2 q3 q4 q5 q6 q7 q8 q9 q10 q11 e1 e2 e3 e5 e11 hS hall
   go_wp2_with fail
   go_meet
   exact ⟨X, k, a, b, c, r, rfl, rfl, HR.out⟩
 case rest =>
  as_aux_lemma =>
  obtain ⟨X, k, a, b, c, r, rfl, rfl, hloc, hX, hXW, tag1, hX0, hag1, hlt1, hM1, hch1⟩ := hcut
  have hltW := HAW.out.2.2.1
  have hA1 := HAW.out.1.keep (w' := wc) (tag' := tag1) fun k hk ht => ⟨hch1.far k hk (by omega), (hag1 k hk).trans ht⟩
  have hB1 : Bks wc WB v0 tag1 N := HAW.out.2.2.2.2.move (fun k h0 h4 => ⟨hch1.far k (hltW k h0) (by omega), hag1 k (hltW k h0)⟩) hlt1 hag1
  have hxt : tag w.heap.size = 0 := HTX.out _ (Nat.le_refl _)
  replace x0 := (hch1.cell (o := 0) hxW (by rw [hxt]; omega)).trans x0
  replace x1 := (hch1.cell (o := 1) hxW (by rw [hxt]; omega)).trans x1
  have hxt1 : tag1 w.heap.size = 0 := (hag1 _ hxW).trans hxt
  have hAg : Agree w tag tag1 := fun k hk => hag1 k (by omega)
  have hCh : Chg (fun k => tag k = iM) w wc := Chg.trans (Chg.of_below HAW.out.2.2.2.1) hch1 fun _ _ h => h
  have hx1 : w.heap.size < wc.heap.size := Nat.lt_of_lt_of_le hxW hch1.size
  have hX1 : X < wc.heap.size := lt_some hX
  have hK1 : d.K < wc.heap.size := hA1.lt
  have H1 : Hid (KAt wc tag1 iK d vP vN vT ∧ MAt wc tag1 iM d.mp d.s ∧ Agree w tag tag1 ∧ Chg (fun k => tag k = iM) w wc ∧ Tagged wc tag1 ∧ Bks wc WB v0 tag1 N) := ⟨hA1, hM1, hAg, hCh, hlt1, hB1⟩
  have HL : Hid (LocR d.s (px, py) k a b c r) := hloc
  have HX : Hid (wc.heap[X]? = some (.cells #[.int .i64 k, .int .i64 a, .int .i64 b, .int .i64 c] 155 (0, 0))) := hX
  have HX0 : Hid (tag1 X = 0 ∧ tag1 w.heap.size = 0 ∧ WB < w.heap.size ∧ w.heap.size < X) := ⟨hX0, hxt1, hWB, by omega⟩
  clear hltW hA1 hB1 hxt hxt1 hAg hCh hloc hX hX0 hag1 hlt1 hM1 hch1 HAW HTX HTA HTB HT hKW hxW c0 hbb hs0' hXW hWB
  generalize wc = W1 at *
  go_upto_region 3 with (go_at_call 63; refine (rfar_any _ _ _).mono ?_; rintro e w2 ⟨rfl, hb2⟩)
  replace x0 := (hb2.cell (p := ⟨w.heap.size, 0, none⟩) hx1).trans x0
  replace x1 := (hb2.cell (p := ⟨w.heap.size, 1, none⟩) hx1).trans x1
  have HX2 : w2.heap[X]? = some (.cells #[.int .i64 k, .int .i64 a, .int .i64 b, .int .i64 c] 155 (0, 0)) := (hb2.block X hX1).trans HX.out
  have hB2 := H1.out.2.2.2.2.2.below hb2
  have hA2 := H1.out.1.below hb2
  have hM2 : MAt w2 tag1 iM d.mp d.s := L.frame _ _ _ _ _ _ _ H1.out.2.1 hb2.size fun k hk ht => ⟨hb2.block k hk, ht⟩
  have hCh2 : Chg (fun k => tag k = iM) w w2 := Chg.trans H1.out.2.2.2.1 (Chg.of_below (F := fun _ => False) hb2) fun _ _ h => h.elim
  have hx2 : w.heap.size < w2.heap.size := Nat.lt_of_lt_of_le hx1 hb2.size
  have hX2 : X < w2.heap.size := lt_some HX2
  have H2 : Hid (KAt w2 tag1 iK d vP vN vT ∧ MAt w2 tag1 iM d.mp d.s ∧ Agree w tag tag1 ∧ Chg (fun k => tag k = iM) w w2 ∧ Bks w2 WB v0 tag1 N) := ⟨hA2, hM2, H1.out.2.2.1, hCh2, hB2⟩
  obtain ⟨a0, a1, a2, a3, _⟩ := ans_cells HX2
  have HX2' : Hid (w2.heap[X]? = some (.cells #[.int .i64 k, .int .i64 a, .int .i64 b, .int .i64 c] 155 (0, 0))) := HX2
  clear HX2 hB2 hA2 hM2 hCh2 hb2 H1 HX hx1 hX1 hK1
  cases hfar : farB px py with
  | true =>
   have hq : k = 0 ∧ a = 0 ∧ b = 0 ∧ c = 0 ∧ r = 1 := by
    rcases HL.out with ⟨_, q⟩ | ⟨q, _⟩
    ·exact q
    ·rw [show farB (px, py).1 (px, py).2 = farB px py from rfl, hfar] at q; cases q
   obtain ⟨rfl, rfl, rfl, rfl, rfl⟩ := hq
   have HPO : Hid (APost MAt WB N v0 w w2 tag iK iM d) := by
    obtain ⟨q1, q2, q3, q4, q5⟩ := H2.out
    exact ⟨tag1, d, q5.more (by omega), ⟨⟨vP, vN, vT, q1⟩, q2⟩, rfl, by omega, q3, q4.mono fun k _ h => .inr (.inr h)⟩
   have heq := eqPlace 0 0 0 0
   clear H2 HX2' HL HX0 OK hfar
   go_wp2_with (go_at_call 39; refine (num_any _ _).mono ?_; rintro e w7 ⟨rfl, rfl⟩)
   go_ret
   exact ⟨rfl, HPO.out⟩
  | false =>
   have hq : r = 0 ∧ ∃ a' b' c', LocP d.s.pts d.s.ts (allJ d.s.pts d.s.ts (flB d.s.pts) d.s.pts.length) (px, py) k a' b' c' ∧ a = numO d.s.nums a' ∧ b = numO d.s.nums b' ∧ c = numO d.s.nums c' := by
    rcases HL.out with ⟨q, _⟩ | ⟨_, q⟩
    ·rw [show farB (px, py).1 (px, py).2 = farB px py from rfl, hfar] at q; cases q
    ·exact q
   obtain ⟨rfl, hloc⟩ := hq
   have HLO : Hid (∃ a' b' c', LocP d.s.pts d.s.ts (allJ d.s.pts d.s.ts (flB d.s.pts) d.s.pts.length) (px, py) k a' b' c' ∧ a = numO d.s.nums a' ∧ b = numO d.s.nums b' ∧ c = numO d.s.nums c') := hloc
   have HNR : Hid (Near px py) := farB_near hfar
   have WT := wtri_any L WB N iK iM v0 tag1 d w2 H2.out.2.2.2.2 hN ⟨⟨vP, vN, vT, H2.out.1⟩, H2.out.2.1⟩ h1 h2 h3
   clear hloc hfar HL a0 a1 a2 a3
   go_upto_region 6 with (go_at_call 60; refine WT.mono ?_; rintro e w3 ⟨v, rfl, hown3, hTP⟩)
   obtain ⟨tag3, d3, hB3, ⟨⟨vP3, vN3, vT3, hA3⟩, hM3⟩, eK, es, hag3, hch3⟩ := hTP
   obtain ⟨ta, tc, rfl⟩ := ownS_any hown3
   obtain ⟨K3, mp3, s3, told3, tl3⟩ := d3
   simp only at eK es
   subst eK es
   obtain ⟨pa, pc, rfl⟩ := ownS_any hA3.ownP
   obtain ⟨na, nc, rfl⟩ := ownS_any hA3.ownN
   have nF : ∀ j, tag1 j = 0 → WB < j → ¬ (BkF WB tag1 j ∨ tag1 j = iK ∨ tag1 j = iM) := fun j h0 hj h => by
    rcases h with (h | h) | h
    ·omega
    ·exact h.1 h0
    ·omega
   have nx := nF _ HX0.out.2.1 HX0.out.2.2.1
   have nX := nF X HX0.out.1 (by have := HX0.out.2.2; omega)
   replace x0 := (hch3.cell (o := 0) hx2 nx).trans x0
   replace x1 := (hch3.cell (o := 1) hx2 nx).trans x1
   have hX3 := (hch3.far X hX2 nX).trans HX2'.out
   have HX3 : Hid (w3.heap[X]? = some (.cells #[.int .i64 k, .int .i64 a, .int .i64 b, .int .i64 c] 155 (0, 0))) := hX3
   have hx3 : w.heap.size < w3.heap.size := Nat.lt_of_lt_of_le hx2 hch3.size
   have hXl3 : X < w3.heap.size := lt_some hX3
   have hK3 : d.K < w3.heap.size := hA3.lt
   have H3 : Hid (APost MAt WB N v0 w w3 tag iK iM d) := by
    obtain ⟨q1, q2, q3, q4, q5⟩ := H2.out
    refine ⟨tag3, _, hB3, ⟨⟨_, _, _, hA3⟩, hM3⟩, rfl, by simp only; omega, fun j hj => (hag3 j (by omega)).trans (q3 j hj), Chg.trans (q4.mono fun j _ h => .inr (.inr h)) hch3 fun j hj h => ?_⟩
    simpa only [BkF, q3 j hj] using h
   have c1 : w3.cell? ⟨d.K, 1, none⟩ = some (.slice pa d.s.pts.length pc) := hA3.cells.2.1
   have c2 : w3.cell? ⟨d.K, 2, none⟩ = some (.slice na d.s.nums.length nc) := hA3.cells.2.2.1
   have hNA : NumsAt w3 na d.s.nums := NumsAt.of_own hA3.ownN
   have HPR : Hid (RawAt w3 pa d.s.pts ∧ TriAt w3 ta d.s.ts ∧ NumsAt w3 na d.s.nums) := ⟨RowP.raw' hA3.ownP, TriAt.of_own hown3, hNA⟩
   clear WT hown3 hB3 hA3 hM3 hag3 hch3 nF nx nX hX3 hNA H2 HX2' hx2 hX2 HX0
   go_upto_region 8 with fail
   go_cut [12] (fun s12 wx => ∃ Y k' a' b' c', s12 = .pointer (some ⟨Y, 0, none⟩) ∧ w3.heap.size ≤ Y ∧ Below w3.heap.size w3 wx ∧ LocP d.s.pts d.s.ts (allJ d.s.pts d.s.ts (flB d.s.pts) d.s.pts.length) (px, py) k' a' b' c' ∧ wx.heap[Y]? = some (.cells #[.int .i64 k', .int .i64 a', .int .i64 b', .int .i64 c'] 155 (0, 0)))
   case first =>
    as_aux_lemma =>
    refine wp_region_inv (m := 9) (by kernel_rfl) (by kernel_rfl) (dsts := [some 42, some 43, some 44, some 45, some 46, some 47, some 48, some 12, none]) rfl (by kernel_rfl) (l := []) rfl (LocJ w3 d.K pa pc ta tc d.s.pts d.s.ts px py) (LocJ.start w3) ?_ ?_
    ·refine flS (flS (flS (flS (flS (flS (flS (flS (flS fl0 ?_) ?_) ?_) ?_) ?_) ?_) ?_) ?_) ?_
     all_goals intro Ls σ wx hS hp hdn hun
     ·exact (gives_move (x := .tmp 1) rfl rfl hS.s0).toS
     ·exact (gives_nil (x := .tmp 42) rfl (show σ 0 = _ from hS.v0 (hp 0 rfl)) hS.s1).toS
     ·exact (gives_field (T := 67) (x := .tmp 43) (f := 1) rfl (show σ 1 = _ from hS.v1 (hp 1 rfl)) (run_field_K1 _ _) hS.s2).toS
     ·exact (gives_load (T := 41) (x := .tmp 44) rfl (show σ 2 = _ from hS.v2 (hp 2 rfl)) (run_load_pts _ _ _ _ ((hS.bel.cell (p := ⟨d.K, 1, none⟩) hK3).trans c1)) hS.s3).toS
     ·exact (gives_move (x := .tmp 10) rfl rfl hS.s4).toS
     ·exact (gives_load (T := 37) (x := .tmp 5) rfl rfl (run_load_pt _ _ _ px py ((hS.bel.cell (p := ⟨w.heap.size, 0, none⟩) hx3).trans x0) ((hS.bel.cell (p := ⟨w.heap.size, 1, none⟩) hx3).trans x1)) hS.s5).toS
     ·have h3' : σ 3 = .slice pa d.s.pts.length pc := hS.v3 (hp 3 rfl)
      have h4' : σ 4 = .slice ta d.s.ts.length tc := hS.v4 (hp 4 rfl)
      have h5' : σ 5 = pv px py := hS.v5 (hp 5 rfl)
      refine (gives_call (f := 103) (args := [.slice pa d.s.pts.length pc, .slice ta d.s.ts.length tc, pv px py]) rfl rfl (by show [σ 3, σ 4, σ 5] = _; rw [h3', h4', h5']) (by go_simp) ((locg_any pa pc ta tc d.s.pts d.s.ts px py wx (HPR.out.1.below hS.bel) OK.out.le OK.out.near OK.out.good (HPR.out.2.1.below hS.bel) HNR.out).mono ?_)).toS
      rintro e w' ⟨k', a', b', c', rfl, hP, hb⟩
      exact ⟨_, rfl, hS.s6 hP hb⟩
     ·have n8 : Ls 8 = false := by
       cases hl : Ls 8 with
       | false => rfl
       | true => have := hdn 8 7 hl rfl; rw [hun] at this; cases this
      exact (gives_alloc (T := 155) rfl (run_alloc_place _) (hS.s7 n8)).toS
     ·obtain ⟨Y, k', a', b', c', e7, e6, hY, hN⟩ := hS.s8 (hp 6 rfl) (hp 7 rfl) hun
      exact gives_store (T := 155) (x := .tmp 12) (y := .tmp 48) rfl (show σ 7 = _ from e7) (show σ 6 = _ from e6) (run_store_place _ _ _ _ _ _ hY) hN
    ·intro Ls σ wx hS hall
     obtain ⟨Y, e1, e2, _, e4⟩ := hS.v7 (hall 7 (by omega))
     obtain ⟨k', a', b', c', hP, hY⟩ := e4 (hall 8 (by omega))
     have hbel := hS.bel
     refine ⟨?_⟩
     simp only [lay, Act.put, List.drop_succ_cons, List.drop_zero, List.setIfInBounds_toArray, List.set_cons_succ, List.set_cons_zero, e1]
     have HR : Hid (w3.heap.size ≤ Y ∧ Below w3.heap.size w3 wx ∧ LocP d.s.pts d.s.ts (allJ d.s.pts d.s.ts (flB d.s.pts) d.s.pts.length) (px, py) k' a' b' c' ∧ wx.heap[Y]? = some (.cells #[.int .i64 k', .int .i64 a', .int .i64 b', .int .i64 c'] 155 (0, 0))) := ⟨e2, hbel, hP, hY⟩
     clear e1 e2 e4 hP hY hS hall hbel
     go_wp2_with fail
     go_meet
     exact ⟨Y, k', a', b', c', rfl, HR.out⟩
   case rest =>
    as_aux_lemma =>
    obtain ⟨Y, k', a', b', c', rfl, hY3, hb4, hP, hY⟩ := hcut
    obtain ⟨hra, hrb, hrc⟩ := locP_rng OK.out.good hP
    have HNA : Hid (NumsAt w3 na d.s.nums) := HPR.out.2.2
    have HP : Hid (LocP d.s.pts d.s.ts (allJ d.s.pts d.s.ts (flB d.s.pts) d.s.pts.length) (px, py) k' a' b' c') := hP
    have HY3 : Hid (w3.heap.size ≤ Y) := hY3
    have HRG : Hid ((-1 ≤ a' ∧ a' < d.s.pts.length) ∧ (-1 ≤ b' ∧ b' < d.s.pts.length) ∧ (-1 ≤ c' ∧ c' < d.s.pts.length)) := ⟨hra, hrb, hrc⟩
    clear hP HPR HNR x0 x1 c1 hra hrb hrc hY3
    go_wp2_with fail
    go_loopw [13] (fun s13 wr => ∃ i : Nat, i ≤ 3 ∧ s13 = .int .i64 i ∧ wr.heap[Y]? = some (.cells #[.int .i64 k', .int .i64 (upO d.s.nums i 0 a'), .int .i64 (upO d.s.nums i 1 b'), .int .i64 (upO d.s.nums i 2 c')] 155 (0, 0)) ∧ Below w3.heap.size w3 wr) (fun i _ => 3 - (intOf i).toNat)
    case atStart => exact ⟨0, by omega, rfl, hY, hb4⟩
    case round =>
     clear hY hb4
     obtain ⟨i, hi, rfl, hYr, hbr⟩ := hrel
     obtain ⟨hra, hrb, hrc⟩ := HRG.out
     have hi' : i = 0 ∨ i = 1 ∨ i = 2 ∨ i = 3 := by omega
     clear hi
     rcases hi' with rfl | rfl | rfl | rfl
     ·by_cases hx0 : 0 ≤ a'
      ·obtain ⟨j, rfl⟩ := Int.eq_ofNat_of_zero_le hx0
       have hjl : j < d.s.nums.length := by have := OK.out.len; have := hra.2; omega
       obtain ⟨g, rfl, hg⟩ := HNA.out j hjl
       have hgl : g < w3.heap.size := World.block_lt_of_cell? w3 _ hg
       have g1 := (hbr.cell (p := ⟨g, j, none⟩) hgl).trans hg
       have g2 := (hbr.cell (p := ⟨d.K, 2, none⟩) hK3).trans c2
       have y0 : (0 : Int) ≤ (j : Int) := by omega
       have y1 : (j : Int) < (d.s.nums.length : Int) := by omega
       obtain ⟨z0, z1, z2, z3, ff⟩ := ans_cells hYr
       have f1 := ff 1
       have eu : upO d.s.nums 0 0 (j : Int) = (j : Int) := rfl
       rw [eu] at z1
       have HE : Hid (upO d.s.nums 1 0 (j : Int) = d.s.nums.getD j 0) := numO_pos
       have hks := heap_setCell_same wr Y 1 _ _ (.int .i64 (d.s.nums.getD j 0)) hYr
       have HNX : Hid ((wr.setCell ⟨Y, 1, none⟩ (.int .i64 (d.s.nums.getD j 0))).heap[Y]? = some (.cells #[.int .i64 k', .int .i64 (upO d.s.nums 1 0 (j : Int)), .int .i64 (upO d.s.nums 1 1 b'), .int .i64 (upO d.s.nums 1 2 c')] 155 (0, 0)) ∧ Below w3.heap.size w3 (wr.setCell ⟨Y, 1, none⟩ (.int .i64 (d.s.nums.getD j 0)))) := by
        refine ⟨?_, hbr.setCell HY3.out _⟩
        rw [hks, HE.out]
        rfl
       clear hks ff eu hYr hbr hg
       generalize d.s.nums.getD j 0 = vv at *
       go_wp2_with fail
       go_region
       go_wp2_with fail
       go_roundw
       case rel => exact ⟨1, by omega, rfl, HNX.out.1, HNX.out.2.drew⟩
       case measure => simp [intOf]
      ·have hx1 : a' < 0 := by omega
       obtain ⟨z0, z1, z2, z3, ff⟩ := ans_cells hYr
       have eu : upO d.s.nums 0 0 a' = a' := rfl
       rw [eu] at z1
       have e2 : upO d.s.nums 1 0 a' = a' := numO_neg hx0
       have HNX : Hid (wr.heap[Y]? = some (.cells #[.int .i64 k', .int .i64 (upO d.s.nums 1 0 a'), .int .i64 (upO d.s.nums 1 1 b'), .int .i64 (upO d.s.nums 1 2 c')] 155 (0, 0))) := by unfold Hid; rw [hYr, e2]; rfl
       have HBR : Hid (Below w3.heap.size w3 wr) := hbr
       clear eu e2 hx0 hYr ff hbr
       go_wp2_with fail
       go_roundw
       case rel => exact ⟨1, by omega, rfl, HNX.out, HBR.out⟩
       case measure => simp [intOf]
     ·by_cases hx0 : 0 ≤ b'
      ·obtain ⟨j, rfl⟩ := Int.eq_ofNat_of_zero_le hx0
       have hjl : j < d.s.nums.length := by have := OK.out.len; have := hrb.2; omega
       obtain ⟨g, rfl, hg⟩ := HNA.out j hjl
       have hgl : g < w3.heap.size := World.block_lt_of_cell? w3 _ hg
       have g1 := (hbr.cell (p := ⟨g, j, none⟩) hgl).trans hg
       have g2 := (hbr.cell (p := ⟨d.K, 2, none⟩) hK3).trans c2
       have y0 : (0 : Int) ≤ (j : Int) := by omega
       have y1 : (j : Int) < (d.s.nums.length : Int) := by omega
       obtain ⟨z0, z1, z2, z3, ff⟩ := ans_cells hYr
       have f1 := ff 2
       have eu : upO d.s.nums 1 1 (j : Int) = (j : Int) := rfl
       rw [eu] at z2
       have HE : Hid (upO d.s.nums 2 1 (j : Int) = d.s.nums.getD j 0) := numO_pos
       have hks := heap_setCell_same wr Y 2 _ _ (.int .i64 (d.s.nums.getD j 0)) hYr
       have HNX : Hid ((wr.setCell ⟨Y, 2, none⟩ (.int .i64 (d.s.nums.getD j 0))).heap[Y]? = some (.cells #[.int .i64 k', .int .i64 (upO d.s.nums 2 0 a'), .int .i64 (upO d.s.nums 2 1 (j : Int)), .int .i64 (upO d.s.nums 2 2 c')] 155 (0, 0)) ∧ Below w3.heap.size w3 (wr.setCell ⟨Y, 2, none⟩ (.int .i64 (d.s.nums.getD j 0)))) := by
        refine ⟨?_, hbr.setCell HY3.out _⟩
        rw [hks, HE.out]
        rfl
       clear hks ff eu hYr hbr hg
       generalize d.s.nums.getD j 0 = vv at *
       go_wp2_with fail
       go_region
       go_wp2_with fail
       go_roundw
       case rel => exact ⟨2, by omega, rfl, HNX.out.1, HNX.out.2.drew⟩
       case measure => simp [intOf]
      ·have hx1 : b' < 0 := by omega
       obtain ⟨z0, z1, z2, z3, ff⟩ := ans_cells hYr
       have eu : upO d.s.nums 1 1 b' = b' := rfl
       rw [eu] at z2
       have e2 : upO d.s.nums 2 1 b' = b' := numO_neg hx0
       have HNX : Hid (wr.heap[Y]? = some (.cells #[.int .i64 k', .int .i64 (upO d.s.nums 2 0 a'), .int .i64 (upO d.s.nums 2 1 b'), .int .i64 (upO d.s.nums 2 2 c')] 155 (0, 0))) := by unfold Hid; rw [hYr, e2]; rfl
       have HBR : Hid (Below w3.heap.size w3 wr) := hbr
       clear eu e2 hx0 hYr ff hbr
       go_wp2_with fail
       go_roundw
       case rel => exact ⟨2, by omega, rfl, HNX.out, HBR.out⟩
       case measure => simp [intOf]
     ·by_cases hx0 : 0 ≤ c'
      ·obtain ⟨j, rfl⟩ := Int.eq_ofNat_of_zero_le hx0
       have hjl : j < d.s.nums.length := by have := OK.out.len; have := hrc.2; omega
       obtain ⟨g, rfl, hg⟩ := HNA.out j hjl
       have hgl : g < w3.heap.size := World.block_lt_of_cell? w3 _ hg
       have g1 := (hbr.cell (p := ⟨g, j, none⟩) hgl).trans hg
       have g2 := (hbr.cell (p := ⟨d.K, 2, none⟩) hK3).trans c2
       have y0 : (0 : Int) ≤ (j : Int) := by omega
       have y1 : (j : Int) < (d.s.nums.length : Int) := by omega
       obtain ⟨z0, z1, z2, z3, ff⟩ := ans_cells hYr
       have f1 := ff 3
       have eu : upO d.s.nums 2 2 (j : Int) = (j : Int) := rfl
       rw [eu] at z3
       have HE : Hid (upO d.s.nums 3 2 (j : Int) = d.s.nums.getD j 0) := numO_pos
       have hks := heap_setCell_same wr Y 3 _ _ (.int .i64 (d.s.nums.getD j 0)) hYr
       have HNX : Hid ((wr.setCell ⟨Y, 3, none⟩ (.int .i64 (d.s.nums.getD j 0))).heap[Y]? = some (.cells #[.int .i64 k', .int .i64 (upO d.s.nums 3 0 a'), .int .i64 (upO d.s.nums 3 1 b'), .int .i64 (upO d.s.nums 3 2 (j : Int))] 155 (0, 0)) ∧ Below w3.heap.size w3 (wr.setCell ⟨Y, 3, none⟩ (.int .i64 (d.s.nums.getD j 0)))) := by
        refine ⟨?_, hbr.setCell HY3.out _⟩
        rw [hks, HE.out]
        rfl
       clear hks ff eu hYr hbr hg
       generalize d.s.nums.getD j 0 = vv at *
       go_wp2_with fail
       go_region
       go_wp2_with fail
       go_roundw
       case rel => exact ⟨3, by omega, rfl, HNX.out.1, HNX.out.2.drew⟩
       case measure => simp [intOf]
      ·have hx1 : c' < 0 := by omega
       obtain ⟨z0, z1, z2, z3, ff⟩ := ans_cells hYr
       have eu : upO d.s.nums 2 2 c' = c' := rfl
       rw [eu] at z3
       have e2 : upO d.s.nums 3 2 c' = c' := numO_neg hx0
       have HNX : Hid (wr.heap[Y]? = some (.cells #[.int .i64 k', .int .i64 (upO d.s.nums 3 0 a'), .int .i64 (upO d.s.nums 3 1 b'), .int .i64 (upO d.s.nums 3 2 c')] 155 (0, 0))) := by unfold Hid; rw [hYr, e2]; rfl
       have HBR : Hid (Below w3.heap.size w3 wr) := hbr
       clear eu e2 hx0 hYr ff hbr
       go_wp2_with fail
       go_roundw
       case rel => exact ⟨3, by omega, rfl, HNX.out, HBR.out⟩
       case measure => simp [intOf]
     ·obtain ⟨a1, b1, c1', hL1, ea, eb, ec⟩ := HLO.out
      obtain ⟨rfl, rfl, rfl, rfl⟩ := loc_one OK.out.nd OK.out.good hL1 HP.out
      have hXr := (hbr.block X hXl3).trans HX3.out
      obtain ⟨p0, p1, p2, p3, _⟩ := ans_cells hXr
      obtain ⟨z0, z1, z2, z3, _⟩ := ans_cells hYr
      have ua : upO d.s.nums 3 0 a1 = a := ea.symm
      have ub : upO d.s.nums 3 1 b1 = b := eb.symm
      have uc : upO d.s.nums 3 2 c1' = c := ec.symm
      rw [ua] at z1
      rw [ub] at z2
      rw [uc] at z3
      have heq := eqPlace k a b c
      have HPO : Hid (APost MAt WB N v0 w wr tag iK iM d) := H3.out.below L hbr
      clear ua ub uc hXr hYr hbr hL1 ea eb ec HLO H3 HP HRG HNA HX3 OK hra hrb hrc
      go_wp2_with fail
      go_ret
      exact ⟨rfl, HPO.out⟩
end Go.Proofs.YtgpapegpdfonpaaGreatDoor
