/-
  mesh.Points.holders, walked.
  mesh.Points.Locate, walked.
  mesh.Points.Triangles, walked.
  The mesh's own calls: NewMesh, Insert, Remove, Triangles, Locate, Nearest.
  The program's meshes keep what the document asks of them.
-/
import Derived.Test.YtgpapegpdfonpaaGreatDoorPtsW
import Derived.Test.YtgpapegpdfonpaaGreatDoorPtsV
import Derived.Test.YtgpapegpdfonpaaGreatDoorWalksFO
import Derived.Test.YtgpapegpdfonpaaGreatDoorMeshEF
set_option linter.unusedVariables false
set_option linter.unusedSimpArgs false
namespace Go.Proofs.YtgpapegpdfonpaaGreatDoor
open Go.RowKit
attribute [local go_sem ↓] Go.wp_at_zero Go.wp_at_succ
theorem gives_asg {P : Program} {o : Oper} {ρ : Operand → Value} {w : World} {R : Value → World → Prop} {x : Operand} {v : Value} (hop : o.op = .assign x) (hx : ρ x = v) (hR : R v w) : Gives P o ρ w R := by
 refine Gives.value v w ?_ hR
 simp only [execOp, hop, hx]
 rfl
def valsC (m : Nat) (vA : Value) (px py : Int) (n : Nat) : Nat → Option Value
 | 0 => some (.pointer (some ⟨m, 0, none⟩))
 | 1 => some (.pointer (some ⟨m, 0, none⟩))
 | 2 => some (.pointer (some ⟨m, 0, none⟩))
 | 3 => some vA
 | 5 => some (pv px py)
 | 8 => some (.pointer (some ⟨m, 0, none⟩))
 | 9 => some (.pointer (some ⟨m, 0, none⟩))
 | 10 => some (.pointer (some ⟨m, 0, none⟩))
 | 11 => some vA
 | 12 => some (.int .i64 (n : Int))
 | 14 => some (.int .i64 (n : Int))
 | _ => none
structure CloI (V : World) (m : Nat) (vA : Value) (pts : List Pt) (px py : Int) (L : Nat → Bool) (σ : Nat → Value) (w : World) : Prop where
 val : ∀ i v, valsC m vA px py pts.length i = some v → L i = true → σ i = v
 c4 : L 4 = true → L 7 = false → w.ownsRow V.heap.size 37 2 (σ 4) pts.length (cellsP pts)
 b6 : L 6 = true → L 7 = false → ∃ g, σ 6 = .slice (some ⟨g, 0, none⟩) 1 1 ∧ w.heap[g]? = some (.cells #[.int .i64 px, .int .i64 py] 37 (0, 0))
 a7 : L 7 = true → ∃ g cap, σ 7 = .slice (some ⟨g, 0, none⟩) (pts.length + 1) cap ∧ w.ownsRow V.heap.size 37 2 (σ 7) (pts.length + 1) (cellsP pts ++ [.int .i64 px, .int .i64 py])
 a13 : L 13 = true → σ 13 = σ 7
 bel : Below V.heap.size V w
section
variable {V w w' : World} {m : Nat} {vA : Value} {pts : List Pt} {px py : Int} {L : Nat → Bool} {σ : Nat → Value} {i : Nat} {v : Value}
theorem CloI.stepV (h : CloI V m vA pts px py L σ w) (hv : valsC m vA px py pts.length i = some v) : CloI V m vA pts px py (fun j => if j = i then true else L j) (fun j => if j = i then v else σ j) w := by
 have ne : ∀ j, valsC m vA px py pts.length j = none → j ≠ i := fun j hj e => by rw [e, hv] at hj; cases hj
 have n4 := ne 4 rfl
 have n6 := ne 6 rfl
 have n7 := ne 7 rfl
 have n13 := ne 13 rfl
 refine ⟨fun j u hj hl => ?_, ?_, ?_, ?_, ?_, h.bel⟩
 ·by_cases e : j = i
  ·subst e; rw [hv] at hj; cases hj; simp
  ·simp only [if_neg e] at hl ⊢; exact h.val j u hj hl
 ·simp only [if_neg n4, if_neg n7]; exact h.c4
 ·simp only [if_neg n6, if_neg n7]; exact h.b6
 ·simp only [if_neg n7]; exact h.a7
 ·simp only [if_neg n13, if_neg n7]; exact h.a13
theorem CloI.stepW (h : CloI V m vA pts px py L σ w) (hv : valsC m vA px py pts.length i = none)
  (c4 : (if 4 = i then true else L 4) = true → (if 7 = i then true else L 7) = false → w'.ownsRow V.heap.size 37 2 (if 4 = i then v else σ 4) pts.length (cellsP pts))
  (b6 : (if 6 = i then true else L 6) = true → (if 7 = i then true else L 7) = false → ∃ g, (if 6 = i then v else σ 6) = .slice (some ⟨g, 0, none⟩) 1 1 ∧ w'.heap[g]? = some (.cells #[.int .i64 px, .int .i64 py] 37 (0, 0)))
  (a7 : (if 7 = i then true else L 7) = true → ∃ g cap, (if 7 = i then v else σ 7) = .slice (some ⟨g, 0, none⟩) (pts.length + 1) cap ∧ w'.ownsRow V.heap.size 37 2 (if 7 = i then v else σ 7) (pts.length + 1) (cellsP pts ++ [.int .i64 px, .int .i64 py]))
  (a13 : (if 13 = i then true else L 13) = true → (if 13 = i then v else σ 13) = (if 7 = i then v else σ 7)) (hb : Below V.heap.size V w') :
  CloI V m vA pts px py (fun j => if j = i then true else L j) (fun j => if j = i then v else σ j) w' := by
 refine ⟨fun j u hj hl => ?_, c4, b6, a7, a13, hb⟩
 have e : j ≠ i := fun e => by rw [e, hv] at hj; cases hj
 simp only [if_neg e] at hl ⊢; exact h.val j u hj hl
end
section
variable {pts : List Pt} {p : Pt}
theorem ask_in {a b : Nat} (ha : a < pts.length) (hb : b < pts.length) : askS (pts ++ [p]) a b pts.length = sg (sd (ptAt pts a) (ptAt pts b) p) := by
 rw [askS_sd, ptAt_app ha, ptAt_app hb, ptAt_last]
theorem heldA_T {t : T3} (h : 0 ≤ t.1 ∧ t.1 < pts.length ∧ 0 ≤ t.2.1 ∧ t.2.1 < pts.length ∧ 0 ≤ t.2.2 ∧ t.2.2 < pts.length) : heldA (pts ++ [p]) pts.length t = heldT pts p t := by
 unfold heldA
 rw [ask_in (by omega) (by omega), ask_in (by omega) (by omega), ask_in (by omega) (by omega), heldB_sg]
 rfl
theorem triH_loc {ts : List T3} {hs : List Int} (hG : GoodT pts ts) (hne : ts ≠ []) (hno : ∀ i, i < pts.length → ptAt pts i ≠ p) (h : TriH (pts ++ [p]) pts.length ts hs) : LocH pts ts p hs := by
 rcases h with ⟨t, ht, rfl, h0⟩ | ⟨rfl, h0⟩
 ·rw [heldA_T (hG.nums t ht)] at h0 ⊢
  exact held_loc hG hno ht h0
 ·exact held_none hG hne hno fun t ht => by rw [← heldA_T (hG.nums t ht)]; exact h0 t ht
theorem lineH_loc {is : List Nat} {i : Nat} (hnd : (pts ++ [p]).Nodup) (hio : InOrder (pts ++ [p]) is) (hi : i < is.length) (hin : is.getD i 0 = pts.length) (hf : FlatP pts) : LocH pts [] p (lineH (pts ++ [p]) is i pts.length) := by
 unfold lineH
 by_cases he : i = 0 ∨ i + 1 = is.length
 ·rw [if_pos he]
  exact ⟨by simp, by simp, line_end hnd hio hi hin he⟩
 ·rw [if_neg he]
  obtain ⟨ha, hb, hne, h1, h2⟩ := line_mid hnd hio (show i + 1 < is.length by omega) (by omega) hin hf
  rw [ask_in ha hb]
  by_cases hs : sd (ptAt pts (is.getD (i - 1) 0)) (ptAt pts (is.getD (i + 1) 0)) p = 0
  ·rw [if_pos ((sg_zero_iff _).2 hs)]
   have := h2 hs
   refine ⟨by simp, by simp only [List.mem_cons, List.not_mem_nil, or_false]; rintro x (rfl | rfl) <;> omega, ?_⟩
   have e1 : ((min (is.getD (i - 1) 0) (is.getD (i + 1) 0) : Nat) : Int) = min ((is.getD (i - 1) 0 : Nat) : Int) ((is.getD (i + 1) 0 : Nat) : Int) := by omega
   have e2 : ((max (is.getD (i - 1) 0) (is.getD (i + 1) 0) : Nat) : Int) = max ((is.getD (i - 1) 0 : Nat) : Int) ((is.getD (i + 1) 0 : Nat) : Int) := by omega
   rw [e1, e2] at this
   exact this
  ·rw [if_neg (fun e => hs ((sg_zero_iff _).1 e))]
   exact ⟨by simp, by simp, h1 hs⟩
theorem more_ok (hnd : pts.Nodup) (hn : AllNear pts) (hp : Near p.1 p.2) (hno : ∀ i, i < pts.length → ptAt pts i ≠ p) : (pts ++ [p]).Nodup ∧ AllNear (pts ++ [p]) := by
 refine ⟨?_, fun i hi => ?_⟩
 ·rw [List.nodup_append]
  refine ⟨hnd, by simp, fun a ha b hb e => ?_⟩
  simp at hb
  subst hb e
  obtain ⟨i, hi, e⟩ := List.getElem_of_mem ha
  exact hno i hi (by unfold ptAt px py; simp [hi, e])
 ·simp at hi
  by_cases h : i < pts.length
  ·have := hn i h
   have e := ptAt_app (p := p) h
   unfold ptAt at e
   rw [(Prod.mk.inj e).1, (Prod.mk.inj e).2]; exact this
  ·have : i = pts.length := by omega
   subst this
   have e := ptAt_last pts p
   unfold ptAt at e
   rw [show px (pts ++ [p]) pts.length = p.1 from (congrArg Prod.fst e), show py (pts ++ [p]) pts.length = p.2 from (congrArg Prod.snd e)]; exact hp
end
set_option maxRecDepth 100000 in
set_option maxHeartbeats 8000000 in
theorem holders_any (m : Nat) (pts : List Pt) (nums : List Int) (ever : Nat) (vA vN : Value) (px py : Int) (w : World) (H : PRow w m pts nums ever vA vN) (hOk : MOk pts nums ever) (hp : Near px py) :
  Calls Tryz.prog 153 #[.pointer (some ⟨m, 0, none⟩), .agg #[.int .i64 px, .int .i64 py]] w fun e w' =>
   ∃ a c hs ts, e = .returned (.slice a hs.length c) ∧ NumsAt w' a hs ∧ TriSpec pts ts ∧ ts.length ≤ 4000 ∧ LocH pts ts (px, py) hs ∧ Below w.heap.size w w' := by
 have hle := hOk.le
 have HOK : Hid (MOk pts nums ever) := hOk
 have HPN : Hid (Near px py) := hp
 obtain ⟨iP, hiP, hzP, hsP, hbP⟩ := info_parts infoPt
 obtain ⟨pa, pc, rfl⟩ := ownS_any H.ownA
 have hb0 := below1 w (.cells #[.int .i64 px, .int .i64 py] 37)
 have x0 : (w.alloc (.cells #[.int .i64 px, .int .i64 py] 37)).cell? ⟨w.heap.size, 0, none⟩ = some (.int .i64 px) := by rw [World.cell?_alloc_at _ _ _ _ (by simp)]; rfl
 have x1 : (w.alloc (.cells #[.int .i64 px, .int .i64 py] 37)).cell? ⟨w.heap.size, 1, none⟩ = some (.int .i64 py) := by rw [World.cell?_alloc_at _ _ _ _ (by simp)]; rfl
 have hs0 : (w.alloc (.cells #[.int .i64 px, .int .i64 py] 37)).heap.size = w.heap.size + 1 := by simp
 obtain ⟨ts0, hS0, hl0⟩ := tri_ex w pts hOk.le hOk.near hOk.nd
 have HTS : Hid (TriSpec pts ts0 ∧ ts0.length ≤ 4000) := ⟨hS0, hl0⟩
 clear hp hOk hS0 hl0
 go_enter Tryz.func153, Tryz.ntmps153
 go_upto_region 1 with fail
 generalize w.alloc (.cells #[.int .i64 px, .int .i64 py] 37) = W at *
 have HB0 : Hid (Below w.heap.size w W) := hb0
 have H1 := H.below hb0
 have HH1 : Hid (PRow W m pts nums ever (.slice pa pts.length pc) vN) := H1
 have HRA : Hid (RawAt W pa pts) := RowP.raw' H1.ownA
 have c0 := H1.cells.1
 have hm1 := H1.lt
 have hx1 : w.heap.size < W.heap.size := by omega
 clear hb0 H H1 hs0
 generalize hBX : w.heap.size = BX at *
 go_region_held3 (fun w' => Below W.heap.size W w' ∧ ∀ b o, b < W.heap.size → w'.cell? ⟨b, o, none⟩ = W.cell? ⟨b, o, none⟩) (first | exact keep0 _ | exact keep1 (by assumption) hb2)
  (first | (go_at_call 171; refine (pidx_any _ _ pts _ _ W.drew hle (show RawAt W.drew pa pts from HRA.out)).mono ?_; rintro e w2 ⟨nn, rfl, hidx, hb2⟩))
 rename_i hS
 have HW2 : Hid (Below W.heap.size W w2) := hS.1
 clear hS hb2 HRA
 rcases hidx with ⟨i, hi, he, rfl⟩ | ⟨hno, rfl⟩
 ·have HL : Hid (LocH pts ts0 (px, py) [(i : Int)]) := ⟨by simp, by simp; omega, .inl ⟨i, hi, he, rfl, rfl, rfl, rfl⟩⟩
  have hb3 := below1 w2 (.cells #[.int .i64 (i : Int)] 3)
  have HR : Hid (NumsAt (w2.alloc (.cells #[.int .i64 (i : Int)] 3)) (some ⟨w2.heap.size, 0, none⟩) [(i : Int)] ∧ Below BX w (w2.alloc (.cells #[.int .i64 (i : Int)] 3))) := by
   refine ⟨fun j hj => ⟨w2.heap.size, rfl, ?_⟩, (HB0.out.trans (HW2.out.mono (by omega))).trans (hb3.mono (by have := HW2.out.size; omega))⟩
   have : j = 0 := by simp at hj; omega
   subst this
   rw [World.cell?_alloc_at _ _ _ _ (by simp)]; rfl
  have q0 : (0 : Int) ≤ (i : Int) := by omega
  clear he hb3
  go_wp2
  go_ret
  rw [hBX]
  exact ⟨_, _, [(i : Int)], ts0, rfl, HR.out.1, HTS.out.1, HTS.out.2, HL.out, HR.out.2⟩
 ·have HNO : Hid (∀ i, i < pts.length → ptAt pts i ≠ (px, py)) := hno
  have y0 := (HW2.out.cell (p := ⟨BX, 0, none⟩) hx1).trans x0
  have y1 := (HW2.out.cell (p := ⟨BX, 1, none⟩) hx1).trans x1
  have H2 := HH1.out.below HW2.out
  have HH2 : Hid (PRow w2 m pts nums ever (.slice pa pts.length pc) vN) := H2
  have d0 := H2.cells.1
  have hm2 := H2.lt
  have hx2 : BX < w2.heap.size := Nat.lt_of_lt_of_le hx1 HW2.out.size
  clear hno x0 x1 c0 H2
  go_wp2_with fail
  have HV : Hid (CloI w2 m (.slice pa pts.length pc) pts px py (fun _ => false) (fun _ => undef) w2.drew) :=
   ⟨(fun _ _ _ h => by cases h), (fun h => by cases h), (fun h => by cases h), (fun h => by cases h), (fun h => by cases h), (Below.refl _ _).drew⟩
  go_cut [6, 7] (fun s6 s7 wx => ∃ g cap, s6 = .slice (some ⟨g, 0, none⟩) (pts.length + 1) cap ∧ s7 = .int .i64 (pts.length : Int) ∧ wx.ownsRow w2.heap.size 37 2 (.slice (some ⟨g, 0, none⟩) (pts.length + 1) cap) (pts.length + 1) (cellsP pts ++ [.int .i64 px, .int .i64 py]) ∧ Below w2.heap.size w2 wx)
  case first =>
   as_aux_lemma =>
   refine wp_region_inv (m := 15) (by kernel_rfl) (by kernel_rfl) (dsts := [some 19, some 20, some 21, some 22, some 23, some 24, some 25, some 26, some 27, some 28, some 29, some 30, some 31, some 6, some 7]) rfl (by kernel_rfl) (l := []) rfl (CloI w2 m (.slice pa pts.length pc) pts px py) HV.out ?_ ?_
   ·refine flS (flS (flS (flS (flS (flS (flS (flS (flS (flS (flS (flS (flS (flS (flS fl0 ?_) ?_) ?_) ?_) ?_) ?_) ?_) ?_) ?_) ?_) ?_) ?_) ?_) ?_) ?_
    all_goals intro Ls σ wx hS hp hdn hun
    ·exact (gives_move (x := .tmp 0) rfl rfl (hS.stepV (i := 0) rfl)).toS
    ·exact (gives_nil (x := .tmp 19) rfl (show σ 0 = _ from hS.val 0 _ rfl (hp 0 rfl)) (hS.stepV (i := 1) rfl)).toS
    ·exact (gives_field (T := 99) (x := .tmp 20) (f := 0) rfl (show σ 1 = _ from hS.val 1 _ rfl (hp 1 rfl)) (run_field_P0 _ _) (hS.stepV (i := 2) rfl)).toS
    ·exact (gives_load (T := 41) (x := .tmp 21) rfl (show σ 2 = _ from hS.val 2 _ rfl (hp 2 rfl)) (run_load_pts _ _ _ _ ((hS.bel.cell (p := ⟨m, 0, none⟩) hm2).trans d0)) (hS.stepV (i := 3) rfl)).toS
    ·have n7 : Ls 7 = false := by
      cases hl : Ls 7 with
      | false => rfl
      | true => have := (hdn 7 4 hl rfl); rw [hun] at this; cases this
     have n13 : Ls 13 = false := by
      cases hl : Ls 13 with
      | false => rfl
      | true => have := (hdn 7 4 (hdn 13 7 hl rfl) rfl); rw [hun] at this; cases this
     have h3' : σ 3 = _ := hS.val 3 _ rfl (hp 3 rfl)
     refine (gives_call (f := 174) (args := [.slice pa pts.length pc]) rfl rfl (by show [σ 3] = _; rw [h3']) (by go_simp) ((pclone_any pa pc pts wx hle (ownB_below HH2.out.ownA hS.bel)).mono ?_)).toS
     rintro e w' ⟨v, rfl, ho, hb⟩
     refine ⟨_, rfl, hS.stepW (i := 4) rfl ?_ ?_ ?_ ?_ (hS.bel.trans (hb.mono hS.bel.size))⟩
     ·intro _ _; exact ownB_mono ho hS.bel.size
     ·intro h6 h7
      obtain ⟨g, e, hg⟩ := hS.b6 h6 h7
      exact ⟨g, e, by rw [hb.block g (lt_some hg)]; exact hg⟩
     ·intro h; simp [n7] at h
     ·intro h; simp [n13] at h
    ·have n7 : Ls 7 = false := by
      cases hl : Ls 7 with
      | false => rfl
      | true => have := (hdn 6 5 (hdn 7 6 hl rfl) rfl); rw [hun] at this; cases this
     exact (gives_load (T := 37) (x := .tmp 3) rfl rfl (run_load_pt _ _ _ px py ((hS.bel.cell (p := ⟨BX, 0, none⟩) hx2).trans y0) ((hS.bel.cell (p := ⟨BX, 1, none⟩) hx2).trans y1)) (hS.stepV (i := 5) rfl)).toS
    ·have n7 : Ls 7 = false := by
      cases hl : Ls 7 with
      | false => rfl
      | true => have := (hdn 7 6 hl rfl); rw [hun] at this; cases this
     have n13 : Ls 13 = false := by
      cases hl : Ls 13 with
      | false => rfl
      | true => have := (hdn 7 6 (hdn 13 7 hl rfl) rfl); rw [hun] at this; cases this
     refine (gives_build (T := 41) (n := 1) (x := .tmp 24) rfl (show σ 5 = _ from hS.val 5 _ rfl (hp 5 rfl)) (run_build_pt _ _ _) (hS.stepW (i := 6) rfl ?_ ?_ ?_ ?_ (hS.bel.alloc hS.bel.size _))).toS
     ·intro h4 h7; exact ownB_below (hS.c4 h4 h7) (below1 _ _)
     ·intro _ _; exact ⟨_, rfl, heap_last _ _⟩
     ·intro h; simp [n7] at h
     ·intro h; simp [n13] at h
    ·have n13 : Ls 13 = false := by
      cases hl : Ls 13 with
      | false => rfl
      | true => have := (hdn 13 7 hl rfl); rw [hun] at this; cases this
     have h4 : Ls 4 = true := hp 4 rfl
     have h6 : Ls 6 = true := hp 6 rfl
     have ho := hS.c4 h4 hun
     obtain ⟨g0, e6, hg0⟩ := hS.b6 h6 hun
     obtain ⟨g, cap, w', hr, h2, h3, h5⟩ := run_append_where (P := Tryz.prog) wx 41 (opAt _ 7).type w2.heap.size 37 iP (.agg #[.int .i64 0, .int .i64 0]) 2 16 Tryz.underlying41 hiP hzP hsP hbP rfl (by decide) (σ 4) pts.length (cellsP pts) ho ⟨g0, 0, none⟩ 1 1 [.int .i64 px, .int .i64 py] rfl (fun j u hu => by rw [Addr.add_lit, Nat.zero_add]; simp [World.cell?, hg0]; simpa using hu) (by intro u hu; simp at hu; rcases hu with rfl | rfl <;> rfl) (by decide) (by simp only [maxLen]; omega) (by omega) hS.bel.size wx.heap.size rfl
     have hb' : Below w2.heap.size w2 w' := by
      rcases h3 with ⟨e, hgr⟩ | ⟨e, hgr⟩
      ·have hge : w2.heap.size ≤ g := by
        rcases ho.2 with ⟨e', _⟩ | ⟨g', c', cur', e', hbg, _⟩
        ·rw [e'] at e; cases e
        ·rw [e'] at e; cases e; exact hbg
       exact hS.bel.trans ⟨hgr.os, hgr.tape, hgr.output, hgr.size, fun k hk => hgr.block k (Nat.lt_of_lt_of_le hk hS.bel.size) (fun e => by cases e; omega)⟩
      ·exact hS.bel.trans ⟨hgr.os, hgr.tape, hgr.output, hgr.size, fun k hk => hgr.block k (Nat.lt_of_lt_of_le hk hS.bel.size) (fun e => by cases e)⟩
     refine (gives_append (t := 41) (s := .tmp 23) (x := .tmp 25) rfl (show σ 4 = σ 4 from rfl) (show σ 6 = _ from e6) hr (hS.stepW (i := 7) rfl ?_ ?_ ?_ ?_ hb')).toS
     ·intro _ h; simp at h
     ·intro _ h; simp at h
     ·intro _; exact ⟨g, cap, rfl, h2⟩
     ·intro h; simp [n13] at h
    ·exact (gives_move (x := .tmp 0) rfl rfl (hS.stepV (i := 8) rfl)).toS
    ·exact (gives_nil (x := .tmp 27) rfl (show σ 8 = _ from hS.val 8 _ rfl (hp 8 rfl)) (hS.stepV (i := 9) rfl)).toS
    ·exact (gives_field (T := 99) (x := .tmp 28) (f := 0) rfl (show σ 9 = _ from hS.val 9 _ rfl (hp 9 rfl)) (run_field_P0 _ _) (hS.stepV (i := 10) rfl)).toS
    ·exact (gives_load (T := 41) (x := .tmp 29) rfl (show σ 10 = _ from hS.val 10 _ rfl (hp 10 rfl)) (run_load_pts _ _ _ _ ((hS.bel.cell (p := ⟨m, 0, none⟩) hm2).trans d0)) (hS.stepV (i := 11) rfl)).toS
    ·exact (gives_len (T := 41) (.inr rfl) (x := .tmp 30) rfl (show σ 11 = _ from hS.val 11 _ rfl (hp 11 rfl)) (hS.stepV (i := 12) rfl)).toS
    ·have h7 : Ls 7 = true := hp 7 rfl
     refine (gives_asg (x := .tmp 26) rfl (show σ 7 = σ 7 from rfl) (hS.stepW (i := 13) rfl ?_ ?_ ?_ ?_ hS.bel)).toS
     ·exact hS.c4
     ·exact hS.b6
     ·exact hS.a7
     ·intro _; rfl
    ·exact (gives_asg (x := .tmp 31) rfl (show σ 12 = _ from hS.val 12 _ rfl (hp 12 rfl)) (hS.stepV (i := 14) rfl)).toS
   ·intro Ls σ wx hS hall
    obtain ⟨g, cap, e7, ho⟩ := hS.a7 (hall 7 (by omega))
    have e13 := hS.a13 (hall 13 (by omega))
    have e14 : σ 14 = _ := hS.val 14 _ rfl (hall 14 (by omega))
    have HB := hS.bel
    rw [e7] at ho e13
    clear hS
    refine ⟨?_⟩
    simp only [lay, Act.put, List.drop_succ_cons, List.drop_zero, List.setIfInBounds_toArray, List.set_cons_succ, List.set_cons_zero, e13, e14]
    go_wp2_with fail
    go_meet
    exact ⟨g, cap, rfl, rfl, ho, HB⟩
  case rest =>
   as_aux_lemma =>
   obtain ⟨g, cap, rfl, rfl, hown, hb3⟩ := hcut
   have HWC : Hid (Below BX w wc) := (HB0.out.trans (HW2.out.mono (by omega))).trans (hb3.mono (by have := HW2.out.size; omega))
   obtain ⟨hndl, hnrl⟩ := more_ok (p := (px, py)) HOK.out.nd HOK.out.near HPN.out HNO.out
   have HNDL : Hid ((pts ++ [(px, py)]).Nodup) := hndl
   have HNRL : Hid (AllNear (pts ++ [(px, py)])) := hnrl
   have hll : (pts ++ [(px, py)]).length = pts.length + 1 := by simp
   have hpt : PtsAt wc g 0 (pts ++ [(px, py)]) := by
    have ho : wc.ownsRow w2.heap.size 37 2 (.slice (some ⟨g, 0, none⟩) (pts ++ [(px, py)]).length cap) (pts ++ [(px, py)]).length (cellsP (pts ++ [(px, py)])) := by
     rw [hll, cellsP_append]; exact hown
    rcases RowP.raw' ho with h | ⟨b, off, e, _, h⟩
    ·simp at h
    ·cases e; exact h
   have hgc : g < wc.heap.size := ownS_lt hown rfl
   have HPT : Hid (PtsAt wc g 0 (pts ++ [(px, py)])) := hpt
   have HT := ptris_any m pts nums ever _ _ wc (HH2.out.below hb3) HOK.out
   have HOKL : Hid ((pts ++ [(px, py)]).length = pts.length + 1) := hll
   clear hndl hnrl hpt hown hb3 hll d0 y0 y1 HV
   generalize wc = X at *
   go_upto_region 6 with (first | (go_at_call 151; refine HT.mono ?_; rintro e w4 ⟨v, ts, rfl, hownT, hspec, hlen, hb4⟩))
   obtain ⟨ta, tc, rfl⟩ := ownS_any hownT
   have HG : Hid (GoodT pts ts) := good_of (fault_ok HOK.out.le HOK.out.near HOK.out.nd) hspec hlen
   have HSP : Hid (TriSpec pts ts ∧ ts.length ≤ 4000) := ⟨hspec, hlen⟩
   have HTR : Hid (TriR w4 ta ts) := TriR.of_own hownT
   have HB4 : Hid (Below X.heap.size X w4) := hb4
   have hg4 : g < w4.heap.size := Nat.lt_of_lt_of_le hgc hb4.size
   have HPT4 : Hid (PtsAt w4 g 0 (pts ++ [(px, py)])) := HPT.out.below hb4 hgc
   have HW4 : Hid (Below BX w w4) := HWC.out.trans (hb4.mono (by have := HWC.out.size; omega))
   clear hownT hspec hb4 HT HTS
   by_cases ht0 : ts = []
   ·subst ht0
    have HF : Hid (FlatP pts) := by
     rcases HG.out.2 with ⟨h, _⟩ | ⟨_, _, _, h⟩
     ·exact h
     ·exact absurd rfl h
    have HO := order_any61 g 0 cap (pts ++ [(px, py)]) pts.length w4 HOKL.out (by rw [HOKL.out]; omega) hg4 HPT4.out
    rw [HOKL.out] at HO
    have HC : ∀ B go is W i, InOrder (pts ++ [(px, py)]) is → i < is.length → is.getD i 0 = pts.length → AskAt W B g 0 cap (pts ++ [(px, py)]) → go < W.heap.size → NatsAt W go 0 is →
      Calls Tryz.prog 175 #[.slice (some ⟨go, 0, none⟩) (pts.length + 1) (pts.length + 1), .int .i64 (pts.length : Int), askV B] W fun e w' => ∃ a c, e = .returned (.slice a (lineH (pts ++ [(px, py)]) is i pts.length).length c) ∧ NumsAt w' a (lineH (pts ++ [(px, py)]) is i pts.length) ∧ Below W.heap.size W w' := fun B go is W i hio hi hin A hg his => by
     have := lineH_any B g 0 cap go (pts.length + 1) (pts ++ [(px, py)]) is pts.length i W (by rw [HOKL.out]; omega) (by rw [hio.len, HOKL.out]; omega) hio.lt hi hin (fun j hj e => by
       have := getD_inj hio.nodup (by omega) hi (e.trans hin.symm)
       omega) A HNRL.out hg his
     rw [hio.len, HOKL.out] at this
     exact this
    go_wp2_with (first
      | (go_at_call 28; refine HO.mono ?_; rintro e w5 ⟨go, is, rfl, hgo, hgos, hb5, hns, hfz, hio⟩
         obtain ⟨i, hi, hin⟩ := ord_pos hio (c := pts.length) (by rw [HOKL.out]; omega))
      | (go_at_call 17; refine (askOf_any _ _ _ _).mono ?_; rintro e w6 ⟨B, hB1, hB2, hcB, rfl, hb6⟩
         have h46 : Below w4.heap.size w4 w6 := hb5.trans (hb6.mono hb5.size)
         have HA : Hid (AskAt w6 B g 0 cap (pts ++ [(px, py)])) := ⟨hB2, Nat.lt_of_lt_of_le hg4 h46.size, by rw [HOKL.out]; exact hcB, HPT4.out.below h46 hg4⟩
         have HNS : Hid (NatsAt w6 go 0 is) := hns.below hb6 hgos)
      | (go_at_call 175; refine (HC B go is _ i hio hi hin HA.out (Nat.lt_of_lt_of_le hgos hb6.size) HNS.out).mono ?_; rintro e w7 ⟨a, c, rfl, hN, hb7⟩))
    have HR : Hid (NumsAt w7 a (lineH (pts ++ [(px, py)]) is i pts.length) ∧ LocH pts [] (px, py) (lineH (pts ++ [(px, py)]) is i pts.length) ∧ Below BX w w7) :=
     ⟨hN, lineH_loc HNDL.out hio hi hin HF.out, HW4.out.trans ((h46.trans (hb7.mono h46.size)).mono (by have := HW4.out.size; omega))⟩
    clear hN hb7 hns hfz hcB
    go_ret
    rw [hBX]
    exact ⟨a, c, _, [], rfl, HR.out.1, HSP.out.1, HSP.out.2, HR.out.2.1, HR.out.2.2⟩
   ·have HT0 : Hid (ts ≠ []) := ht0
    have hl0 := List.length_pos_iff.2 ht0
    have q0 : ((ts.length : Int) == 0) = false := beq_eq_false_iff_ne.2 (by omega)
    have HC : ∀ B W, Below w4.heap.size w4 W → AskAt W B g 0 cap (pts ++ [(px, py)]) → Calls Tryz.prog 176 #[.slice ta ts.length tc, .int .i64 (pts.length : Int), askV B] W _ := fun B W hb A =>
     triH_any B g 0 cap (pts ++ [(px, py)]) ta tc ts pts.length W (by rw [HOKL.out]; omega) HSP.out.2 (fun t ht => by have := HG.out.nums t ht; rw [HOKL.out]; omega) (by rw [HOKL.out]; omega) A HNRL.out (HTR.out.below hb)
    clear ht0
    go_wp2_with (first
      | (go_at_call 17; refine (askOf_any _ _ _ _).mono ?_; rintro e w6 ⟨B, hB1, hB2, hcB, rfl, h46⟩
         have HA : Hid (AskAt w6 B g 0 cap (pts ++ [(px, py)])) := ⟨hB2, Nat.lt_of_lt_of_le hg4 h46.size, by rw [HOKL.out]; exact hcB, HPT4.out.below h46 hg4⟩)
      | (go_at_call 176; refine (HC B _ h46 HA.out).mono ?_; rintro e w7 ⟨a, c, hs, rfl, hN, hTH, hb7⟩))
    have HR : Hid (NumsAt w7 a hs ∧ LocH pts ts (px, py) hs ∧ Below BX w w7) :=
     ⟨hN, triH_loc HG.out HT0.out HNO.out hTH, HW4.out.trans ((h46.trans (hb7.mono h46.size)).mono (by have := HW4.out.size; omega))⟩
    clear hN hb7 hcB hTH
    go_ret
    rw [hBX]
    exact ⟨a, c, hs, ts, rfl, HR.out.1, HSP.out.1, HSP.out.2, HR.out.2.1, HR.out.2.2⟩
end Go.Proofs.YtgpapegpdfonpaaGreatDoor

namespace Go.Proofs.YtgpapegpdfonpaaGreatDoor
open Go.RowKit
attribute [local go_sem ↓] Go.wp_at_zero Go.wp_at_succ
def LocA (pts : List Pt) (nums : List Int) (p : Pt) (k a b c r : Int) : Prop :=
 (farB p.1 p.2 = true ∧ k = 0 ∧ a = 0 ∧ b = 0 ∧ c = 0 ∧ r = 1) ∨
 (farB p.1 p.2 = false ∧ r = 0 ∧ ∃ ts a' b' c', TriSpec pts ts ∧ ts.length ≤ 4000 ∧ LocP pts ts (allJ pts ts (flB pts) pts.length) p k a' b' c' ∧ a = numO nums a' ∧ b = numO nums b' ∧ c = numO nums c')
theorem three_pts (w : World) (o o2 : Obj) (ax ay : Int) (T : TypeId) : PtsAt (((w.alloc o).alloc o2).alloc (.cells #[.int .i64 ax, .int .i64 ay] T)) (w.heap.size + 1 + 1) 0 [(ax, ay)] := by
 intro j hj
 have hj : j = 0 := by simp at hj; omega
 subst hj
 rw [World.cell?_alloc_at _ _ _ _ (by simp), World.cell?_alloc_at _ _ _ _ (by simp)]
 exact ⟨rfl, rfl⟩
set_option maxRecDepth 100000 in
set_option maxHeartbeats 8000000 in
theorem plocate_any (m : Nat) (pts : List Pt) (nums : List Int) (ever : Nat) (vA vN : Value) (px py : Int) (w : World) (H : PRow w m pts nums ever vA vN) (hOk : MOk pts nums ever) :
  Calls Tryz.prog 128 #[.pointer (some ⟨m, 0, none⟩), .agg #[.int .i64 px, .int .i64 py]] w fun e w' =>
   ∃ k a b c r, e = .returned (.tuple #[.agg #[.int .i64 k, .int .i64 a, .int .i64 b, .int .i64 c], .int .i64 r]) ∧ LocA pts nums (px, py) k a b c r ∧ Below w.heap.size w w' := by
 have HP1 : Hid (PtsAt (((w.alloc (.cells #[.int .i64 px, .int .i64 py] 37)).alloc (.cells #[.int .i64 0, .int .i64 0, .int .i64 0, .int .i64 0] 155)).alloc (.cells #[.int .i64 px, .int .i64 py] 37)) (w.heap.size + 1 + 1) 0 [(px, py)]) := three_pts _ _ _ _ _ _
 have hb0 := below3 w (.cells #[.int .i64 px, .int .i64 py] 37) (.cells #[.int .i64 0, .int .i64 0, .int .i64 0, .int .i64 0] 155) (.cells #[.int .i64 px, .int .i64 py] 37)
 have x0 : (((w.alloc (.cells #[.int .i64 px, .int .i64 py] 37)).alloc (.cells #[.int .i64 0, .int .i64 0, .int .i64 0, .int .i64 0] 155)).alloc (.cells #[.int .i64 px, .int .i64 py] 37)).cell? ⟨w.heap.size, 0, none⟩ = some (.int .i64 px) := by
  rw [World.cell?_alloc_past _ _ _ (by simp; omega), World.cell?_alloc_past _ _ _ (by simp), World.cell?_alloc_at _ _ _ _ (by simp)]; rfl
 have x1 : (((w.alloc (.cells #[.int .i64 px, .int .i64 py] 37)).alloc (.cells #[.int .i64 0, .int .i64 0, .int .i64 0, .int .i64 0] 155)).alloc (.cells #[.int .i64 px, .int .i64 py] 37)).cell? ⟨w.heap.size, 1, none⟩ = some (.int .i64 py) := by
  rw [World.cell?_alloc_past _ _ _ (by simp; omega), World.cell?_alloc_past _ _ _ (by simp), World.cell?_alloc_at _ _ _ _ (by simp)]; rfl
 have x2 : (((w.alloc (.cells #[.int .i64 px, .int .i64 py] 37)).alloc (.cells #[.int .i64 0, .int .i64 0, .int .i64 0, .int .i64 0] 155)).alloc (.cells #[.int .i64 px, .int .i64 py] 37)).heap[w.heap.size + 1]? = some (.cells #[.int .i64 0, .int .i64 0, .int .i64 0, .int .i64 0] 155 (0, 0)) := by
  rw [Below.heap_alloc _ _ _ (by simp)]
  have := heap_last (w.alloc (.cells #[.int .i64 px, .int .i64 py] 37)) (.cells #[.int .i64 0, .int .i64 0, .int .i64 0, .int .i64 0] 155)
  simpa using this
 have hs0 : (((w.alloc (.cells #[.int .i64 px, .int .i64 py] 37)).alloc (.cells #[.int .i64 0, .int .i64 0, .int .i64 0, .int .i64 0] 155)).alloc (.cells #[.int .i64 px, .int .i64 py] 37)).heap.size = w.heap.size + 3 := by simp
 have HH : Hid (PRow w m pts nums ever vA vN) := H
 have HOK : Hid (MOk pts nums ever) := hOk
 have hle := hOk.le
 have hn60 : nums.length ≤ 60 := by have := hOk.len; omega
 clear H hOk
 cases hfr : farB px py with
 | true =>
  have HFR : Hid (farB px py = true) := hfr
  go_enter Tryz.func128, Tryz.ntmps128
  go_upto_region 2 with (first | (go_at_call 16; refine (anyFar_any _ 0 1 [(px, py)] _ (by simp) (by simp) HP1.out).mono ?_; rintro e w1 ⟨rfl, hb1⟩; rw [anyFar1', hfr]))
  have hq : w1.heap[w.heap.size + 1]? = some (.cells #[.int .i64 0, .int .i64 0, .int .i64 0, .int .i64 0] 155 (0, 0)) := by rw [hb1.block _ (by omega)]; exact x2
  have hbw : Below w.heap.size w w1 := hb0.trans (hb1.mono hb0.size)
  obtain ⟨b0, b1, b2, b3⟩ : w1.cell? ⟨w.heap.size + 1, 0, none⟩ = some (.int .i64 0) ∧ w1.cell? ⟨w.heap.size + 1, 1, none⟩ = some (.int .i64 0) ∧ w1.cell? ⟨w.heap.size + 1, 2, none⟩ = some (.int .i64 0) ∧ w1.cell? ⟨w.heap.size + 1, 3, none⟩ = some (.int .i64 0) := by simp [World.cell?, hq]
  have ff : ∀ j, w1.frozen? ⟨w.heap.size + 1, j, none⟩ = false := fun j => by simp [World.frozen?, hq]
  have f0 := ff 0
  have f1 := ff 1
  have f2 := ff 2
  have f3 := ff 3
  obtain ⟨X, hX, z0, z1, z2, z3, hbX⟩ := place_put hq (.int .i64 0) (.int .i64 0) (.int .i64 0) (.int .i64 0)
  have HBX : Hid (Below w.heap.size w X) := hbw.trans (hbX w.heap.size (by omega))
  clear hq hbw ff hbX HP1 hb0 x0 x1 x2 hs0 hb1
  generalize hBX : w.heap.size = BX at *
  go_wp2
  refine bodyPost_ret (v := .tuple #[.agg #[.int .i64 0, .int .i64 0, .int .i64 0, .int .i64 0], .int .i64 1]) (by simp [results, Tryz.results128, go_sem, z0, z1, z2, z3]) rfl ⟨0, 0, 0, 0, 1, rfl, .inl ⟨HFR.out, rfl, rfl, rfl, rfl, rfl⟩, ?_⟩
  rw [hBX]; exact HBX.out
 | false =>
  have HFR : Hid (farB px py = false) := hfr
  have HPN : Hid (Near px py) := farB_near hfr
  go_enter Tryz.func128, Tryz.ntmps128
  go_upto_region 3 with (first | (go_at_call 16; refine (anyFar_any _ 0 1 [(px, py)] _ (by simp) (by simp) HP1.out).mono ?_; rintro e w1 ⟨rfl, hb1⟩; rw [anyFar1', hfr]))
  have hq : w1.heap[w.heap.size + 1]? = some (.cells #[.int .i64 0, .int .i64 0, .int .i64 0, .int .i64 0] 155 (0, 0)) := by rw [hb1.block _ (by omega)]; exact x2
  have HQ : Hid (w1.heap[w.heap.size + 1]? = some (.cells #[.int .i64 0, .int .i64 0, .int .i64 0, .int .i64 0] 155 (0, 0))) := hq
  have hbw : Below w.heap.size w w1 := hb0.trans (hb1.mono hb0.size)
  have HBW : Hid (Below w.heap.size w w1) := hbw
  have HH1 : Hid (PRow w1 m pts nums ever vA vN) := HH.out.below hbw
  have y0 := (hb1.cell (p := ⟨w.heap.size, 0, none⟩) (by simp; omega)).trans x0
  have y1 := (hb1.cell (p := ⟨w.heap.size, 1, none⟩) (by simp; omega)).trans x1
  have hs1 : w.heap.size + 3 ≤ w1.heap.size := by have := hb1.size; omega
  clear hbw HP1 hb0 x0 x1 x2 hs0 hb1 hq
  go_wp2_with (first
    | (go_at_call 153; refine (holders_any m pts nums ever vA vN px py _ HH1.out HOK.out HPN.out).mono ?_; rintro e w2 ⟨a, c, hs, ts, rfl, hN, hSp, hLe, hL, hb2⟩
       have HHL : Hid (LocH pts ts (px, py) hs) := hL
       have HSL : Hid (TriSpec pts ts ∧ ts.length ≤ 4000) := ⟨hSp, hLe⟩
       have HNU : Hid (NumsAt w2 a hs) := hN
       have HB2 : Hid (Below w1.heap.size w1 w2) := hb2
       have hq2 : w2.heap[w.heap.size + 1]? = some (.cells #[.int .i64 0, .int .i64 0, .int .i64 0, .int .i64 0] 155 (0, 0)) := by rw [hb2.block _ (by omega)]; exact HQ.out
       have HQ2 : Hid (w2.heap[w.heap.size + 1]? = some (.cells #[.int .i64 0, .int .i64 0, .int .i64 0, .int .i64 0] 155 (0, 0))) := hq2
       clear hN hSp hLe hL hb2 hq2)
    | (go_at_call 152; refine (placeOf_any m pts nums ever vA vN a c hs _ (HH1.out.below HB2.out) hn60 HHL.out.1 (fun x hx => by have := HHL.out.2.1 x hx; have := HOK.out.len; omega) HNU.out).mono ?_; rintro e w3 ⟨rfl, hb3⟩
       have hs2 : w1.heap.size ≤ w2.heap.size := HB2.out.size
       have hq3 : w3.heap[w.heap.size + 1]? = some (.cells #[.int .i64 0, .int .i64 0, .int .i64 0, .int .i64 0] 155 (0, 0)) := by rw [hb3.block _ (by omega)]; exact HQ2.out
       obtain ⟨b0, b1, b2, b3⟩ : w3.cell? ⟨w.heap.size + 1, 0, none⟩ = some (.int .i64 0) ∧ w3.cell? ⟨w.heap.size + 1, 1, none⟩ = some (.int .i64 0) ∧ w3.cell? ⟨w.heap.size + 1, 2, none⟩ = some (.int .i64 0) ∧ w3.cell? ⟨w.heap.size + 1, 3, none⟩ = some (.int .i64 0) := by simp [World.cell?, hq3]
       have ff : ∀ j, w3.frozen? ⟨w.heap.size + 1, j, none⟩ = false := fun j => by simp [World.frozen?, hq3]
       have f0 := ff 0
       have f1 := ff 1
       have f2 := ff 2
       have f3 := ff 3
       have HLA : Hid (LocA pts nums (px, py) (kindH hs.length) (numO nums (hs.getD 0 (-1))) (numO nums (hs.getD 1 (-1))) (numO nums (hs.getD 2 (-1))) 0) := .inr ⟨HFR.out, rfl, ts, _, _, _, HSL.out.1, HSL.out.2, HHL.out.2.2, rfl, rfl, rfl⟩
       generalize kindH hs.length = kd at *
       generalize numO nums (hs.getD 0 (-1)) = o0 at *
       generalize numO nums (hs.getD 1 (-1)) = o1 at *
       generalize numO nums (hs.getD 2 (-1)) = o2 at *
       obtain ⟨X, hX, z0, z1, z2, z3, hbX⟩ := place_put hq3 (.int .i64 kd) (.int .i64 o0) (.int .i64 o1) (.int .i64 o2)
       have HBX : Hid (Below w.heap.size w X) := (HBW.out.trans ((HB2.out.trans (hb3.mono HB2.out.size)).mono (by omega))).trans (hbX w.heap.size (by omega))
       clear hq3 hb3 ff hbX))
  refine bodyPost_ret (v := .tuple #[.agg #[.int .i64 kd, .int .i64 o0, .int .i64 o1, .int .i64 o2], .int .i64 0]) (by simp [results, Tryz.results128, go_sem, z0, z1, z2, z3]) rfl ⟨kd, o0, o1, o2, 0, rfl, HLA.out, HBX.out⟩
end Go.Proofs.YtgpapegpdfonpaaGreatDoor

namespace Go.Proofs.YtgpapegpdfonpaaGreatDoor
open Go.RowKit
attribute [local go_sem ↓] Go.wp_at_zero Go.wp_at_succ
def renV (ts : List T3) (nums : List Int) (i k j c : Nat) : Int := if j < i ∨ (j = i ∧ c < k) then nums.getD (nth3 (ts.getD j (0, 0, 0)) c).toNat 0 else nth3 (ts.getD j (0, 0, 0)) c
structure RowT (w : World) (g cap : Nat) (ts : List T3) (nums : List Int) (i k : Nat) : Prop where
 out : ∃ cur, w.heap[g]? = some (.cells cur 53 (0, 0)) ∧ cur.size = cap * 3 ∧ ∀ j c, j < ts.length → c < 3 → cur[j * 3 + c]? = some (.int .i64 (renV ts nums i k j c))
section
variable {w : World} {g cap : Nat} {ts : List T3} {nums : List Int} {i k : Nat}
theorem enc_nth (t : T3) {c : Nat} (hc : c < 3) : (encT t)[c]? = some (.int .i64 (nth3 t c)) := by
 have : c = 0 ∨ c = 1 ∨ c = 2 := by omega
 rcases this with rfl | rfl | rfl <;> rfl
theorem RowT.start {base : Nat} (h : w.ownsRow base 53 3 (.slice (some ⟨g, 0, none⟩) ts.length cap) ts.length (flatT ts)) : RowT w g cap ts nums 0 0 := by
 rcases h.2 with ⟨e, _⟩ | ⟨g', cap', cur, e, _, hg, hnc, _, hcs, htk⟩
 ·cases e
 ·cases e
  refine ⟨cur, hg, hcs, fun j c hj hc => ?_⟩
  have f := flatT_get ts j c hc hj
  rw [← htk, List.getElem?_take_of_lt (by omega), Array.getElem?_toList, enc_nth _ hc] at f
  have eg : ts.getD j (0, 0, 0) = ts[j] := by simp [hj]
  unfold renV
  rw [if_neg (by omega), eg]; exact f
theorem RowT.next (h : RowT w g cap ts nums i 3) : RowT w g cap ts nums (i + 1) 0 := by
 obtain ⟨cur, hg, hcs, hc⟩ := h.out
 refine ⟨cur, hg, hcs, fun j c hj hc3 => ?_⟩
 rw [hc j c hj hc3]
 unfold renV
 by_cases e : j < i ∨ (j = i ∧ c < 3)
 ·rw [if_pos e, if_pos (by omega)]
 ·rw [if_neg e, if_neg (by omega)]
theorem RowT.put (h : RowT w g cap ts nums i k) (hi : i < ts.length) (hk : k < 3) (hcap : ts.length ≤ cap) (q : Nat) : RowT ((w.drewN q).setCell ⟨g, i * 3 + k, none⟩ (.int .i64 (nums.getD (nth3 (ts.getD i (0, 0, 0)) k).toNat 0))) g cap ts nums i (k + 1) := by
 obtain ⟨cur, hg, hcs, hc⟩ := h.out
 have st := heap_setCell_same (w.drewN q) g (i * 3 + k) _ _ (.int .i64 (nums.getD (nth3 (ts.getD i (0, 0, 0)) k).toNat 0)) hg
 refine ⟨_, st, by simpa using hcs, fun j c hj hc3 => ?_⟩
 rw [Array.getElem?_setIfInBounds]
 by_cases e : i * 3 + k = j * 3 + c
 ·have e1 : j = i := by omega
  have e2 : c = k := by omega
  subst e1 e2
  rw [if_pos rfl, if_pos (by omega)]
  unfold renV
  rw [if_pos (by omega)]
 ·rw [if_neg e, hc j c hj hc3]
  unfold renV
  by_cases e' : j < i ∨ (j = i ∧ c < k)
  ·rw [if_pos e', if_pos (by omega)]
  ·rw [if_neg e', if_neg (by omega)]
theorem RowT.cell (h : RowT w g cap ts nums i k) {j c : Nat} (hj : j < ts.length) (hc : c < 3) : w.cell? ⟨g, j * 3 + c, none⟩ = some (.int .i64 (renV ts nums i k j c)) ∧ w.frozen? ⟨g, j * 3 + c, none⟩ = false := by
 obtain ⟨cur, hg, hcs, hcc⟩ := h.out
 have := hcc j c hj hc
 simp [World.cell?, World.frozen?, hg, this]
theorem RowT.fin {base : Nat} (h : RowT w g cap ts nums ts.length 0) (hb : base ≤ g) (hnc : ts.length ≤ cap) (hcm : cap ≤ maxLen) : w.ownsRow base 53 3 (.slice (some ⟨g, 0, none⟩) ts.length cap) ts.length (flatT (ts.map (numT nums))) := by
 obtain ⟨cur, hg, hcs, hc⟩ := h.out
 refine ⟨by rw [flatT_length, List.length_map], .inr ⟨g, cap, cur, rfl, hb, hg, hnc, hcm, hcs, ?_⟩⟩
 apply List.ext_getElem?
 intro q
 by_cases hq : q < ts.length * 3
 ·rw [List.getElem?_take_of_lt hq, Array.getElem?_toList]
  have e : q = q / 3 * 3 + q % 3 := by omega
  have hj : q / 3 < ts.length := by omega
  have hc3 : q % 3 < 3 := by omega
  rw [e, hc _ _ hj hc3, flatT_get _ _ _ hc3 (by rw [List.length_map]; exact hj), enc_nth _ hc3]
  unfold renV
  have eg : ts.getD (q / 3) (0, 0, 0) = ts[q / 3] := by simp [hj]
  rw [if_pos (by omega), eg, List.getElem_map]
  unfold numT nth3
  have : q % 3 = 0 ∨ q % 3 = 1 ∨ q % 3 = 2 := by omega
  rcases this with h | h | h <;> simp [h]
 ·rw [List.getElem?_eq_none (by simp; omega), List.getElem?_eq_none (by rw [flatT_length, List.length_map]; omega)]
end
theorem idx_tri0 (x y z : Int) (w : World) : (Instr.index 53 (.agg #[.int .i64 x, .int .i64 y, .int .i64 z]) (.int .i64 0)).run Tryz.prog w = .ok (.int .i64 x) w := by kernel_rfl
theorem idx_tri1 (x y z : Int) (w : World) : (Instr.index 53 (.agg #[.int .i64 x, .int .i64 y, .int .i64 z]) (.int .i64 1)).run Tryz.prog w = .ok (.int .i64 y) w := by kernel_rfl
theorem idx_tri2 (x y z : Int) (w : World) : (Instr.index 53 (.agg #[.int .i64 x, .int .i64 y, .int .i64 z]) (.int .i64 2)).run Tryz.prog w = .ok (.int .i64 z) w := by kernel_rfl
theorem PRow.keepT {w w' : World} {m : Nat} {pts : List Pt} {nums : List Int} {ever : Nat} {vA vN : Value} (h : PRow w m pts nums ever vA vN) (h1 : KeepsT 101 w w') (h2 : KeepsT 37 w w') (h3 : KeepsT 3 w w') : PRow w' m pts nums ever vA vN :=
 ⟨h1 _ _ h.blk, h2.own h.ownA, h3.own h.ownN⟩
set_option maxRecDepth 100000 in
set_option maxHeartbeats 8000000 in
theorem pTris_any (m : Nat) (pts : List Pt) (nums : List Int) (ever : Nat) (vA vN : Value) (w : World) (H : PRow w m pts nums ever vA vN) (hOk : MOk pts nums ever) :
  Calls Tryz.prog 127 #[.pointer (some ⟨m, 0, none⟩)] w fun e w' =>
   ∃ v ts, e = .returned v ∧ w'.ownsRow w.heap.size 53 3 v ts.length (flatT (ts.map (numT nums))) ∧ TriSpec pts ts ∧ ts.length ≤ 4000 ∧ Below w.heap.size w w' := by
 have HT := ptris_any m pts nums ever vA vN w H hOk
 obtain ⟨na, nc, rfl⟩ := ownS_any H.ownN
 have HH : Hid (PRow w m pts nums ever vA (.slice na nums.length nc)) := H
 have HOK : Hid (MOk pts nums ever) := hOk
 have hm0 := H.lt
 have hn60 : nums.length ≤ 60 := by have := hOk.le; have := hOk.len; omega
 clear H hOk
 go_enter Tryz.func127, Tryz.ntmps127
 go_upto_region 2 with (first | (go_at_call 151; refine HT.mono ?_; rintro e w1 ⟨v, ts, rfl, hown, hsp, hlen, hb1⟩))
 have HSP : Hid (TriSpec pts ts ∧ ts.length ≤ 4000) := ⟨hsp, hlen⟩
 have HG : Hid (GoodT pts ts) := good_of (fault_ok HOK.out.le HOK.out.near HOK.out.nd) hsp hlen
 have HB1 : Hid (Below w.heap.size w w1) := hb1
 have HH1 : Hid (PRow w1 m pts nums ever vA (.slice na nums.length nc)) := HH.out.below hb1
 by_cases ht0 : ts = []
 ·subst ht0
  obtain ⟨ta, tc, rfl⟩ := ownS_any hown
  have HOW : Hid (w1.ownsRow w.heap.size 53 3 (.slice ta 0 tc) 0 []) := hown
  clear hown hsp HT
  go_wp2_with fail
  go_loopw [11] (fun s11 wr => s11 = .int .i64 0 ∧ wr = w1) (fun _ _ => 0)
  case atStart => exact ⟨rfl, rfl⟩
  case round =>
   obtain ⟨rfl, rfl⟩ := hrel
   go_wp2
   go_ret
   exact ⟨_, [], rfl, HOW.out, HSP.out.1, HSP.out.2, HB1.out⟩
 ·have hl0 := List.length_pos_iff.2 ht0
  obtain ⟨g, tc, rfl, hgb, hnc, hcm⟩ : ∃ g tc, v = .slice (some ⟨g, 0, none⟩) ts.length tc ∧ w.heap.size ≤ g ∧ ts.length ≤ tc ∧ tc ≤ maxLen := by
   rcases hown.2 with ⟨_, h⟩ | ⟨g, cap, cur, e, h1, _, h2, h3, _⟩
   ·omega
   ·exact ⟨g, cap, e, h1, h2, h3⟩
  have HRT : Hid (RowT w1 g tc ts nums 0 0) := RowT.start hown
  clear hown hsp HT ht0 hb1
  go_wp2_with fail
  go_loopw [11] (fun s11 wr => ∃ i : Nat, i ≤ ts.length ∧ s11 = .int .i64 i ∧ RowT wr g tc ts nums i 0 ∧ Below w.heap.size w wr ∧ PRow wr m pts nums ever vA (.slice na nums.length nc)) (fun i _ => ts.length - (intOf i).toNat)
  case atStart => exact ⟨0, Nat.zero_le _, rfl, HRT.out, HB1.out, HH1.out⟩
  case round =>
   obtain ⟨i, hi, rfl, hR, hb, hP⟩ := hrel
   have HR : Hid (RowT wr g tc ts nums i 0) := hR
   have HB : Hid (Below w.heap.size w wr) := hb
   have HP : Hid (PRow wr m pts nums ever vA (.slice na nums.length nc)) := hP
   clear hR hb hP
   by_cases hil : i < ts.length
   ·have y0 : (0 : Int) ≤ (i : Int) := by omega
    have y1 : (i : Int) < (ts.length : Int) := by omega
    have y4 : IntKind.i64.wrap ((i : Int) + 1) = (i : Int) + 1 := wrap_id (by omega) (by omega)
    have hmem : ts.getD i (0, 0, 0) ∈ ts := by
     have : ts.getD i (0, 0, 0) = ts[i] := by simp [hil]
     rw [this]; exact List.getElem_mem hil
    obtain ⟨r1, r2, r3, r4, r5, r6⟩ := HG.out.nums _ hmem
    have hln := HOK.out.len
    obtain ⟨x, ex⟩ : ∃ x : Nat, (ts.getD i (0, 0, 0)).1 = (x : Int) := ⟨_, (Int.toNat_of_nonneg r1).symm⟩
    obtain ⟨y, ey⟩ : ∃ y : Nat, (ts.getD i (0, 0, 0)).2.1 = (y : Int) := ⟨_, (Int.toNat_of_nonneg r3).symm⟩
    obtain ⟨z, ez⟩ : ∃ z : Nat, (ts.getD i (0, 0, 0)).2.2 = (z : Int) := ⟨_, (Int.toNat_of_nonneg r5).symm⟩
    have hx : x < nums.length := by omega
    have hy : y < nums.length := by omega
    have hz : z < nums.length := by omega
    have EX : Hid (nth3 (ts.getD i (0, 0, 0)) 0 = (x : Int)) := ex
    have EY : Hid (nth3 (ts.getD i (0, 0, 0)) 1 = (y : Int)) := ey
    have EZ : Hid (nth3 (ts.getD i (0, 0, 0)) 2 = (z : Int)) := ez
    have c0 : wr.cell? ⟨g, i * 3, none⟩ = some (.int .i64 (x : Int)) := by have := (HR.out.cell hil (show 0 < 3 by omega)).1; unfold renV at this; rw [if_neg (by omega), EX.out] at this; exact this
    have c1 : wr.cell? ⟨g, i * 3 + 1, none⟩ = some (.int .i64 (y : Int)) := by have := (HR.out.cell hil (show 1 < 3 by omega)).1; unfold renV at this; rw [if_neg (by omega), EY.out] at this; exact this
    have c2 : wr.cell? ⟨g, i * 3 + 2, none⟩ = some (.int .i64 (z : Int)) := by have := (HR.out.cell hil (show 2 < 3 by omega)).1; unfold renV at this; rw [if_neg (by omega), EZ.out] at this; exact this
    clear hmem r1 r2 r3 r4 r5 r6 ex ey ez hln
    go_wp2_with fail
    clear c0 c1 c2
    go_loopw [18] (fun s18 wk => ∃ k : Nat, k ≤ 3 ∧ s18 = .int .i64 k ∧ RowT wk g tc ts nums i k ∧ Below w.heap.size w wk ∧ PRow wk m pts nums ever vA (.slice na nums.length nc)) (fun j _ => 3 - (intOf j).toNat)
    case atStart => exact ⟨0, by omega, rfl, HR.out, HB.out, HP.out⟩
    case round =>
     obtain ⟨k, hk, rfl, hR2, hb2, hP2⟩ := hrel
     clear HR HB HP
     have HR2 : Hid (RowT wr g tc ts nums i k) := hR2
     have HB2 : Hid (Below w.heap.size w wr) := hb2
     have HP2 : Hid (PRow wr m pts nums ever vA (.slice na nums.length nc)) := hP2
     have hcs : k = 3 ∨ k = 0 ∨ k = 1 ∨ k = 2 := by omega
     clear hR2 hb2 hP2
     rcases hcs with rfl | rfl | rfl | rfl
     ·have HN : Hid (RowT wr g tc ts nums (i + 1) 0) := HR2.out.next
      clear HR2
      go_wp2
      go_roundw
      case rel => exact ⟨i + 1, by omega, by go_num, HN.out, HB2.out, HP2.out⟩
      case measure => simp [intOf]; omega
     ·obtain ⟨c0, f0⟩ := HR2.out.cell hil (show 0 < 3 by omega)
      rw [Nat.add_zero] at c0 f0
      have d1 := HP2.out.cells.2.1
      obtain ⟨G, rfl, cN⟩ := NumsAt.of_own HP2.out.ownN x hx
      have p1 : (0 : Int) ≤ (x : Int) := by omega
      have p2 : (x : Int) < (nums.length : Int) := by omega
      have HPU : Hid (∀ q, RowT ((wr.drewN q).setCell ⟨g, i * 3, none⟩ (.int .i64 (nums.getD x 0))) g tc ts nums i (0 + 1) ∧ Below w.heap.size w ((wr.drewN q).setCell ⟨g, i * 3, none⟩ (.int .i64 (nums.getD x 0))) ∧ PRow ((wr.drewN q).setCell ⟨g, i * 3, none⟩ (.int .i64 (nums.getD x 0))) m pts nums ever vA (.slice (some ⟨G, 0, none⟩) nums.length nc)) := fun q => by
       have hput := HR2.out.put hil (show 0 < 3 by omega) hnc q
       rw [EX.out, Int.toNat_natCast] at hput
       obtain ⟨cur, hg, _⟩ := HR2.out.out
       refine ⟨hput, Below.setCell (below_drewN HB2.out) hgb _, HP2.out.keepT ?_ ?_ ?_⟩
       ·exact fun k c h => keepsT_set (w := wr.drewN q) hg (by decide) k c h
       ·exact fun k c h => keepsT_set (w := wr.drewN q) hg (by decide) k c h
       ·exact fun k c h => keepsT_set (w := wr.drewN q) hg (by decide) k c h
      generalize renV ts nums i 0 i 0 = ov at *
      generalize nums.getD x 0 = nv at *
      have hix := idx_tri0 (x : Int) (y : Int) (z : Int)
      clear HR2 HB2 HP2
      go_wp2_with fail
      go_region
      go_wp2
      go_roundw
      case rel => exact ⟨0 + 1, by omega, by go_num, (HPU.out 1).1, (HPU.out 1).2.1, (HPU.out 1).2.2⟩
      case measure => simp [intOf]
     ·obtain ⟨c0, f0⟩ := HR2.out.cell hil (show 1 < 3 by omega)
      have d1 := HP2.out.cells.2.1
      obtain ⟨G, rfl, cN⟩ := NumsAt.of_own HP2.out.ownN y hy
      have p1 : (0 : Int) ≤ (y : Int) := by omega
      have p2 : (y : Int) < (nums.length : Int) := by omega
      have HPU : Hid (∀ q, RowT ((wr.drewN q).setCell ⟨g, i * 3 + 1, none⟩ (.int .i64 (nums.getD y 0))) g tc ts nums i (1 + 1) ∧ Below w.heap.size w ((wr.drewN q).setCell ⟨g, i * 3 + 1, none⟩ (.int .i64 (nums.getD y 0))) ∧ PRow ((wr.drewN q).setCell ⟨g, i * 3 + 1, none⟩ (.int .i64 (nums.getD y 0))) m pts nums ever vA (.slice (some ⟨G, 0, none⟩) nums.length nc)) := fun q => by
       have hput := HR2.out.put hil (show 1 < 3 by omega) hnc q
       rw [EY.out, Int.toNat_natCast] at hput
       obtain ⟨cur, hg, _⟩ := HR2.out.out
       refine ⟨hput, Below.setCell (below_drewN HB2.out) hgb _, HP2.out.keepT ?_ ?_ ?_⟩
       ·exact fun k c h => keepsT_set (w := wr.drewN q) hg (by decide) k c h
       ·exact fun k c h => keepsT_set (w := wr.drewN q) hg (by decide) k c h
       ·exact fun k c h => keepsT_set (w := wr.drewN q) hg (by decide) k c h
      generalize renV ts nums i 1 i 1 = ov at *
      generalize nums.getD y 0 = nv at *
      have hix := idx_tri1 (x : Int) (y : Int) (z : Int)
      clear HR2 HB2 HP2
      go_wp2_with fail
      go_region
      go_wp2
      go_roundw
      case rel => exact ⟨1 + 1, by omega, by go_num, (HPU.out 1).1, (HPU.out 1).2.1, (HPU.out 1).2.2⟩
      case measure => simp [intOf]
     ·obtain ⟨c0, f0⟩ := HR2.out.cell hil (show 2 < 3 by omega)
      have d1 := HP2.out.cells.2.1
      obtain ⟨G, rfl, cN⟩ := NumsAt.of_own HP2.out.ownN z hz
      have p1 : (0 : Int) ≤ (z : Int) := by omega
      have p2 : (z : Int) < (nums.length : Int) := by omega
      have HPU : Hid (∀ q, RowT ((wr.drewN q).setCell ⟨g, i * 3 + 2, none⟩ (.int .i64 (nums.getD z 0))) g tc ts nums i (2 + 1) ∧ Below w.heap.size w ((wr.drewN q).setCell ⟨g, i * 3 + 2, none⟩ (.int .i64 (nums.getD z 0))) ∧ PRow ((wr.drewN q).setCell ⟨g, i * 3 + 2, none⟩ (.int .i64 (nums.getD z 0))) m pts nums ever vA (.slice (some ⟨G, 0, none⟩) nums.length nc)) := fun q => by
       have hput := HR2.out.put hil (show 2 < 3 by omega) hnc q
       rw [EZ.out, Int.toNat_natCast] at hput
       obtain ⟨cur, hg, _⟩ := HR2.out.out
       refine ⟨hput, Below.setCell (below_drewN HB2.out) hgb _, HP2.out.keepT ?_ ?_ ?_⟩
       ·exact fun k c h => keepsT_set (w := wr.drewN q) hg (by decide) k c h
       ·exact fun k c h => keepsT_set (w := wr.drewN q) hg (by decide) k c h
       ·exact fun k c h => keepsT_set (w := wr.drewN q) hg (by decide) k c h
      generalize renV ts nums i 2 i 2 = ov at *
      generalize nums.getD z 0 = nv at *
      have hix := idx_tri2 (x : Int) (y : Int) (z : Int)
      clear HR2 HB2 HP2
      go_wp2_with fail
      go_region
      go_wp2
      go_roundw
      case rel => exact ⟨2 + 1, by omega, by go_num, (HPU.out 1).1, (HPU.out 1).2.1, (HPU.out 1).2.2⟩
      case measure => simp [intOf]
   ·have ei : i = ts.length := by omega
    subst ei
    have HF : Hid (wr.ownsRow w.heap.size 53 3 (.slice (some ⟨g, 0, none⟩) ts.length tc) ts.length (flatT (ts.map (numT nums)))) := HR.out.fin hgb hnc hcm
    clear HR
    go_wp2
    go_ret
    exact ⟨_, ts, rfl, HF.out, HSP.out.1, HSP.out.2, HB.out⟩
end Go.Proofs.YtgpapegpdfonpaaGreatDoor

namespace Go.Proofs.YtgpapegpdfonpaaGreatDoor
open Go.RowKit
attribute [local go_sem ↓] Go.wp_at_zero Go.wp_at_succ
set_option maxHeartbeats 2000000 in
theorem mnew_any (w : World) : Calls Tryz.prog 21 #[] w fun e w' => e = .returned (.pointer (some ⟨w.heap.size, 0, none⟩)) ∧ PRow w' w.heap.size [] [] 0 (.slice none 0 0) (.slice none 0 0) ∧ Below w.heap.size w w' := by
 have HR : Hid (PRow (w.alloc (.cells #[.slice none 0 0, .slice none 0 0, .int .i64 0] 101)) w.heap.size [] [] 0 (.slice none 0 0) (.slice none 0 0) ∧ Below w.heap.size w (w.alloc (.cells #[.slice none 0 0, .slice none 0 0, .int .i64 0] 101))) :=
  ⟨⟨heap_last _ _, ⟨rfl, .inl ⟨rfl, rfl⟩⟩, ⟨rfl, .inl ⟨rfl, rfl⟩⟩⟩, below1 _ _⟩
 go_enter Tryz.func21, Tryz.ntmps21
 go_wp2
 go_ret
 exact ⟨rfl, HR.out⟩
theorem InsP.pre {w W w' : World} {m : Nat} {pts : List Pt} {nums : List Int} {ever : Nat} {vA vN : Value} {p : Pt} {n : Int} {q : Nat} (hb : Below w.heap.size w W) (h : InsP (W.drewN q) w' m pts nums ever vA vN p n) : InsP w w' m pts nums ever vA vN p n := by
 rcases h with ⟨h1, h2, h3⟩ | ⟨h1, h2, vA', vN', h3, h4, h5, h6⟩
 ·exact .inl ⟨h1, h2, hb.trans ((⟨h3.os, h3.tape, h3.output, h3.size, h3.block⟩ : Below W.heap.size W w').mono hb.size)⟩
 ·have hs : w.heap.size ≤ (W.drewN q).heap.size := hb.size
  refine .inr ⟨h1, h2, vA', vN', h3, (Chg.of_below hb).trans (⟨h4.os, h4.tape, h4.output, h4.size, h4.far⟩ : Chg (chgI m vA vN) W w') fun _ _ g => g, fun g hg => ?_, fun g hg => ?_⟩
  ·rcases h5 g hg with h | h
   ·exact .inl h
   ·exact .inr (Nat.le_trans hs h)
  ·rcases h6 g hg with h | h
   ·exact .inl h
   ·exact .inr (Nat.le_trans hs h)
section
variable (m : Nat) (pts : List Pt) (nums : List Int) (ever : Nat) (vA vN : Value)
set_option maxRecDepth 100000 in
set_option maxHeartbeats 4000000 in
theorem minsert_any (px py : Int) (w : World) (H : PRow w m pts nums ever vA vN) (hOk : MOk pts nums ever) (hev : ever ≤ 2000000000000) :
  Calls Tryz.prog 97 #[.pointer (some ⟨m, 0, none⟩), .agg #[.int .i64 px, .int .i64 py]] w fun e w' => ∃ n, e = .returned (.tuple #[.int .i64 n, .int .i64 (insE pts (px, py))]) ∧ InsP w w' m pts nums ever vA vN (px, py) n := by
 have hb0 := below1 w (.cells #[.int .i64 px, .int .i64 py] 37)
 have x0 : (w.alloc (.cells #[.int .i64 px, .int .i64 py] 37)).cell? ⟨w.heap.size, 0, none⟩ = some (.int .i64 px) := by rw [World.cell?_alloc_at _ _ _ _ (by simp)]; rfl
 have x1 : (w.alloc (.cells #[.int .i64 px, .int .i64 py] 37)).cell? ⟨w.heap.size, 1, none⟩ = some (.int .i64 py) := by rw [World.cell?_alloc_at _ _ _ _ (by simp)]; rfl
 have H1 := H.below hb0
 have HC : ∀ q, Calls Tryz.prog 125 #[.pointer (some ⟨m, 0, none⟩), .agg #[.int .i64 px, .int .i64 py]] ((w.alloc (.cells #[.int .i64 px, .int .i64 py] 37)).drewN q) _ := fun q => pinsert_any m pts nums ever vA vN px py _ ⟨H1.blk, H1.ownA, H1.ownN⟩ hOk hev
 have HB0 : Hid (Below w.heap.size w (w.alloc (.cells #[.int .i64 px, .int .i64 py] 37))) := hb0
 have hm := H.lt
 clear H H1 hOk
 generalize insE pts (px, py) = ie at *
 go_enter Tryz.func97, Tryz.ntmps97
 go_upto_region 1 with fail
 generalize w.alloc (.cells #[.int .i64 px, .int .i64 py] 37) = W at *
 go_region_with (go_at_call 125; refine (HC 1).mono ?_; rintro e w1 ⟨n, rfl, hI⟩)
 all_goals go_wp2
 all_goals go_ret2
 all_goals exact ⟨n, rfl, hI.pre hb0⟩
set_option maxRecDepth 100000 in
set_option maxHeartbeats 4000000 in
theorem mremove_any (n : Int) (w : World) (H : PRow w m pts nums ever vA vN) (hOk : MOk pts nums ever) :
  Calls Tryz.prog 98 #[.pointer (some ⟨m, 0, none⟩), .int .i64 n] w fun e w' => ∃ r, e = .returned (.int .i64 r) ∧ RemP w w' m pts nums ever vA vN n r := by
 have HC := premove_any m pts nums ever vA vN n w H hOk
 clear H hOk
 go_enter Tryz.func98, Tryz.ntmps98
 go_wp2_with (first | (go_at_call 126; refine HC.mono ?_; rintro e w1 ⟨r, rfl, hI⟩))
 go_ret
 exact ⟨r, rfl, hI⟩
set_option maxRecDepth 100000 in
set_option maxHeartbeats 4000000 in
theorem mtris_any (w : World) (H : PRow w m pts nums ever vA vN) (hOk : MOk pts nums ever) :
  Calls Tryz.prog 100 #[.pointer (some ⟨m, 0, none⟩)] w fun e w' =>
   ∃ v ts, e = .returned v ∧ w'.ownsRow w.heap.size 53 3 v ts.length (flatT (ts.map (numT nums))) ∧ TriSpec pts ts ∧ ts.length ≤ 4000 ∧ Below w.heap.size w w' := by
 have HC := pTris_any m pts nums ever vA vN w H hOk
 clear H hOk
 go_enter Tryz.func100, Tryz.ntmps100
 go_wp2_with (first | (go_at_call 127; refine HC.mono ?_; rintro e w1 ⟨v, ts, rfl, hI⟩))
 go_ret
 exact ⟨v, ts, rfl, hI⟩
set_option maxRecDepth 100000 in
set_option maxHeartbeats 4000000 in
theorem mnear_any (px py : Int) (w : World) (H : PRow w m pts nums ever vA vN) (hOk : MOk pts nums ever) :
  Calls Tryz.prog 62 #[.pointer (some ⟨m, 0, none⟩), .agg #[.int .i64 px, .int .i64 py]] w fun e w' => ∃ n r, e = .returned (.tuple #[.int .i64 n, .int .i64 r]) ∧ NearP' pts nums (px, py) n r ∧ Below w.heap.size w w' := by
 have hb0 := below1 w (.cells #[.int .i64 px, .int .i64 py] 37)
 have x0 : (w.alloc (.cells #[.int .i64 px, .int .i64 py] 37)).cell? ⟨w.heap.size, 0, none⟩ = some (.int .i64 px) := by rw [World.cell?_alloc_at _ _ _ _ (by simp)]; rfl
 have x1 : (w.alloc (.cells #[.int .i64 px, .int .i64 py] 37)).cell? ⟨w.heap.size, 1, none⟩ = some (.int .i64 py) := by rw [World.cell?_alloc_at _ _ _ _ (by simp)]; rfl
 have H1 := H.below hb0
 have HC : ∀ q, Calls Tryz.prog 104 #[.pointer (some ⟨m, 0, none⟩), .agg #[.int .i64 px, .int .i64 py]] ((w.alloc (.cells #[.int .i64 px, .int .i64 py] 37)).drewN q) _ := fun q => pnear_any m pts nums ever vA vN px py _ ⟨H1.blk, H1.ownA, H1.ownN⟩ hOk
 have hm := H.lt
 clear H H1 hOk
 go_enter Tryz.func62, Tryz.ntmps62
 go_upto_region 1 with fail
 generalize w.alloc (.cells #[.int .i64 px, .int .i64 py] 37) = W at *
 go_region_with (go_at_call 104; refine (HC 1).mono ?_; rintro e w1 ⟨n, r, rfl, hI, hb1⟩)
 all_goals go_wp2
 all_goals go_ret2
 all_goals exact ⟨n, r, rfl, hI, hb0.trans ((⟨hb1.os, hb1.tape, hb1.output, hb1.size, hb1.block⟩ : Below W.heap.size W w1).mono hb0.size)⟩
set_option maxRecDepth 100000 in
set_option maxHeartbeats 4000000 in
theorem mlocate_any (px py : Int) (w : World) (H : PRow w m pts nums ever vA vN) (hOk : MOk pts nums ever) :
  Calls Tryz.prog 102 #[.pointer (some ⟨m, 0, none⟩), .agg #[.int .i64 px, .int .i64 py]] w fun e w' =>
   ∃ k a b c r, e = .returned (.tuple #[.agg #[.int .i64 k, .int .i64 a, .int .i64 b, .int .i64 c], .int .i64 r]) ∧ LocA pts nums (px, py) k a b c r ∧ Below w.heap.size w w' := by
 have hb0 := below2 w (.cells #[.int .i64 px, .int .i64 py] 37) (.cells #[.int .i64 0, .int .i64 0, .int .i64 0, .int .i64 0] 155)
 have x0 : ((w.alloc (.cells #[.int .i64 px, .int .i64 py] 37)).alloc (.cells #[.int .i64 0, .int .i64 0, .int .i64 0, .int .i64 0] 155)).cell? ⟨w.heap.size, 0, none⟩ = some (.int .i64 px) := by
  rw [World.cell?_alloc_past _ _ _ (by simp), World.cell?_alloc_at _ _ _ _ (by simp)]; rfl
 have x1 : ((w.alloc (.cells #[.int .i64 px, .int .i64 py] 37)).alloc (.cells #[.int .i64 0, .int .i64 0, .int .i64 0, .int .i64 0] 155)).cell? ⟨w.heap.size, 1, none⟩ = some (.int .i64 py) := by
  rw [World.cell?_alloc_past _ _ _ (by simp), World.cell?_alloc_at _ _ _ _ (by simp)]; rfl
 have x2 : ((w.alloc (.cells #[.int .i64 px, .int .i64 py] 37)).alloc (.cells #[.int .i64 0, .int .i64 0, .int .i64 0, .int .i64 0] 155)).heap[w.heap.size + 1]? = some (.cells #[.int .i64 0, .int .i64 0, .int .i64 0, .int .i64 0] 155 (0, 0)) := by
  have := heap_last (w.alloc (.cells #[.int .i64 px, .int .i64 py] 37)) (.cells #[.int .i64 0, .int .i64 0, .int .i64 0, .int .i64 0] 155)
  simpa using this
 have hs0 : ((w.alloc (.cells #[.int .i64 px, .int .i64 py] 37)).alloc (.cells #[.int .i64 0, .int .i64 0, .int .i64 0, .int .i64 0] 155)).heap.size = w.heap.size + 2 := by simp
 have H1 := H.below hb0
 have HC : ∀ q, Calls Tryz.prog 128 #[.pointer (some ⟨m, 0, none⟩), .agg #[.int .i64 px, .int .i64 py]] (((w.alloc (.cells #[.int .i64 px, .int .i64 py] 37)).alloc (.cells #[.int .i64 0, .int .i64 0, .int .i64 0, .int .i64 0] 155)).drewN q) _ := fun q => plocate_any m pts nums ever vA vN px py _ ⟨H1.blk, H1.ownA, H1.ownN⟩ hOk
 have hm := H.lt
 clear H H1 hOk
 go_enter Tryz.func102, Tryz.ntmps102
 go_upto_region 1 with fail
 generalize (w.alloc (.cells #[.int .i64 px, .int .i64 py] 37)).alloc (.cells #[.int .i64 0, .int .i64 0, .int .i64 0, .int .i64 0] 155) = W at *
 have X2 : Hid (W.heap[w.heap.size + 1]? = some (.cells #[.int .i64 0, .int .i64 0, .int .i64 0, .int .i64 0] 155 (0, 0))) := x2
 clear x2
 go_region_with (go_at_call 128; refine (HC 1).mono ?_; rintro e w1 ⟨kd, o0, o1, o2, r, rfl, hI, hb1⟩
                 have hb1' : Below W.heap.size W w1 := ⟨hb1.os, hb1.tape, hb1.output, hb1.size, hb1.block⟩
                 have hq3 : w1.heap[w.heap.size + 1]? = some (.cells #[.int .i64 0, .int .i64 0, .int .i64 0, .int .i64 0] 155 (0, 0)) := by rw [hb1'.block _ (by omega)]; exact X2.out
                 obtain ⟨b0, b1, b2, b3⟩ : w1.cell? ⟨w.heap.size + 1, 0, none⟩ = some (.int .i64 0) ∧ w1.cell? ⟨w.heap.size + 1, 1, none⟩ = some (.int .i64 0) ∧ w1.cell? ⟨w.heap.size + 1, 2, none⟩ = some (.int .i64 0) ∧ w1.cell? ⟨w.heap.size + 1, 3, none⟩ = some (.int .i64 0) := by simp [World.cell?, hq3]
                 have ff : ∀ j, w1.frozen? ⟨w.heap.size + 1, j, none⟩ = false := fun j => by simp [World.frozen?, hq3]
                 have f0 := ff 0
                 have f1 := ff 1
                 have f2 := ff 2
                 have f3 := ff 3
                 obtain ⟨X, hX, z0, z1, z2, z3, hbX⟩ := place_put hq3 (.int .i64 kd) (.int .i64 o0) (.int .i64 o1) (.int .i64 o2)
                 have HBX : Hid (Below w.heap.size w X) := (hb0.trans (hb1'.mono hb0.size)).trans (hbX w.heap.size (by omega))
                 have HIL : Hid (LocA pts nums (px, py) kd o0 o1 o2 r) := hI
                 clear hq3 ff hbX hI hb1 hb1')
 all_goals go_wp2
 all_goals refine bodyPost_ret (v := .tuple #[.agg #[.int .i64 kd, .int .i64 o0, .int .i64 o1, .int .i64 o2], .int .i64 r]) (by simp [results, Tryz.results102, go_sem, z0, z1, z2, z3]) rfl ⟨kd, o0, o1, o2, r, rfl, HIL.out, HBX.out⟩
end
end Go.Proofs.YtgpapegpdfonpaaGreatDoor

namespace Go.Proofs.YtgpapegpdfonpaaGreatDoor
open Go.RowKit
attribute [local go_sem ↓] Go.wp_at_zero Go.wp_at_succ
def MAt (w : World) (tag : Nat → Nat) (i m : Nat) (s : MS) : Prop :=
 ∃ vA vN, PRow w m s.pts s.nums s.ever vA vN ∧ tag m = i ∧ (∀ g, vA.ownBlock = some g → tag g = i) ∧ (∀ g, vN.ownBlock = some g → tag g = i) ∧ MOk s.pts s.nums s.ever ∧ TriSpec s.pts s.ts ∧ s.ts.length ≤ 4000
theorem MAt.frame {w w' : World} {tag tag' : Nat → Nat} {i m : Nat} {s : MS} (h : MAt w tag i m s) (hs : w.heap.size ≤ w'.heap.size) (hk : ∀ k, k < w.heap.size → tag k = i → w'.heap[k]? = w.heap[k]? ∧ tag' k = i) : MAt w' tag' i m s := by
 obtain ⟨vA, vN, hP, t1, t2, t3, r⟩ := h
 have km := hk m hP.lt t1
 have ka := fun g hg => hk g (ownS_lt hP.ownA hg) (t2 g hg)
 have kn := fun g hg => hk g (ownS_lt hP.ownN hg) (t3 g hg)
 exact ⟨vA, vN, hP.keep km.1 (fun g hg => (ka g hg).1) (fun g hg => (kn g hg).1), km.2, fun g hg => (ka g hg).2, fun g hg => (kn g hg).2, r⟩
theorem tri_nil : TriSpec [] [] := ⟨[], ⟨List.Perm.refl _, (fun i j _ h => by cases h)⟩, .inl ⟨(fun j _ h => by cases h), rfl⟩⟩
theorem mOk_nil : MOk [] [] 0 := ⟨rfl, by simp, (fun i h => by cases h), List.nodup_nil, List.Pairwise.nil, (fun n h => by cases h)⟩
theorem MOk.more {pts : List Pt} {nums : List Int} {ever : Nat} {p : Pt} (h : MOk pts nums ever) (h0 : insE pts p = 0) : MOk (pts ++ [p]) (nums ++ [(ever : Int)]) (ever + 1) := by
 unfold insE at h0
 split at h0
 ·omega
 ·rename_i hf
  split at h0
  ·omega
  ·rename_i hm
   split at h0
   ·omega
   ·rename_i h60
    have hno : ∀ i, i < pts.length → ptAt pts i ≠ p := fun i hi e => hm (by rw [← e]; exact ptAt_mem hi)
    obtain ⟨n1, n2⟩ := more_ok h.nd h.near (farB_near (by simpa using hf)) hno
    refine ⟨by simp [h.len], by simp; have := h.le; omega, n2, n1, ?_, ?_⟩
    ·rw [List.pairwise_append]
     exact ⟨h.inc, by simp, fun a ha b hb => by simp at hb; subst hb; exact (h.rng a ha).2⟩
    ·intro n hn
     rcases List.mem_append.1 hn with hn | hn
     ·have := h.rng n hn; omega
     ·simp at hn; omega
theorem MOk.less {pts : List Pt} {nums : List Int} {ever i : Nat} (h : MOk pts nums ever) (hi : i < nums.length) : MOk (pts.eraseIdx i) (nums.eraseIdx i) ever := by
 have sub := List.eraseIdx_sublist pts i
 refine ⟨?_, Nat.le_trans sub.length_le h.le, ?_, sub.nodup h.nd, h.inc.sublist (List.eraseIdx_sublist nums i), fun n hn => h.rng n ((List.eraseIdx_sublist nums i).subset hn)⟩
 ·rw [List.length_eraseIdx, List.length_eraseIdx, h.len]
 ·intro j hj
  have hm : ptAt (pts.eraseIdx i) j ∈ pts := sub.subset (ptAt_mem hj)
  obtain ⟨q, hq, e⟩ := List.getElem_of_mem hm
  have := h.near q hq
  have e2 : ptAt pts q = ptAt (pts.eraseIdx i) j := by rw [← e]; unfold ptAt px py; simp [hq]
  unfold ptAt at e2
  rw [← (Prod.mk.inj e2).1, ← (Prod.mk.inj e2).2]; exact this
theorem tagged0 {w : World} {tag : Nat → Nat} (h : Tagged w tag) {g : Nat} (hg : w.heap.size ≤ g) : tag g = 0 := by
 by_cases e : tag g = 0
 ·exact e
 ·have := h g e; omega
theorem MPost.same {w w' : World} {tag : Nat → Nat} {i m : Nat} {s : MS} {v : Value} (h : MAt w tag i m s) (hT : Tagged w tag) (hb : Below w.heap.size w w') (hv : ∀ g, v.ownBlock = some g → w.heap.size ≤ g) : MPost MAt w w' tag i m s v :=
 ⟨tag, fun _ _ => rfl, fun k hk => Nat.lt_of_lt_of_le (hT k hk) hb.size, h.frame hb.size fun k hk ht => ⟨hb.block k hk, ht⟩, Chg.of_below hb, fun g hg => tagged0 hT (hv g hg)⟩
theorem nil_own (g : Nat) : (Value.slice none 0 0).ownBlock = some g → False := fun h => by cases h
theorem meshLaw : MeshLaw MAt where
 frame := fun w w' tag tag' i m s h hs hk => h.frame hs hk
 ok := fun w tag i m s h => by
  obtain ⟨vA, vN, hP, t1, t2, t3, hO, hS, hl⟩ := h
  exact ⟨hO.len, hO.le, hO.near, hO.nd, hO.inc, hO.rng, good_of (fault_ok hO.le hO.near hO.nd) hS hl⟩
 new := fun w tag i hi hT => by
  refine (mnew_any w).mono ?_
  rintro e w' ⟨rfl, hP, hb⟩
  refine ⟨w.heap.size, rfl, ⟨fun k => if k = w.heap.size then i else tag k, fun k hk => if_neg (by omega), fun k hk => ?_, ⟨_, _, hP, if_pos rfl, (fun g hg => (nil_own g hg).elim), (fun g hg => (nil_own g hg).elim), mOk_nil, tri_nil, by simp⟩, Chg.of_below hb, fun g hg => (nil_own g hg).elim⟩, hb⟩
  by_cases e : k = w.heap.size
  ·rw [e]; exact hP.lt
  ·simp only [if_neg e] at hk
   exact Nat.lt_of_lt_of_le (hT k hk) hb.size
 insert := fun w tag i m s px py hi h hT hev => by
  obtain ⟨vA, vN, hP, t1, t2, t3, hO, hS, hl⟩ := h
  refine (minsert_any m s.pts s.nums s.ever vA vN px py w hP hO hev).mono ?_
  rintro e w' ⟨n, rfl, hI⟩
  rcases hI with ⟨h1, h2, hb⟩ | ⟨h1, h2, vA', vN', hP', hc, a1, a2⟩
  ·exact ⟨n, s, rfl, .inl ⟨h1, h2, rfl⟩, MPost.same ⟨vA, vN, hP, t1, t2, t3, hO, hS, hl⟩ hT hb fun g hg => (nil_own g hg).elim⟩
  ·have hO' := hO.more h1
   obtain ⟨ts', hS', hl'⟩ := tri_ex w (s.pts ++ [(px, py)]) hO'.le hO'.near hO'.nd
   refine ⟨n, ⟨s.pts ++ [(px, py)], s.nums ++ [(s.ever : Int)], s.ever + 1, ts'⟩, rfl, .inr ⟨h1, h2, rfl, rfl, rfl⟩, fun k => if k < w.heap.size then tag k else if vA'.ownBlock = some k ∨ vN'.ownBlock = some k then i else 0, fun k hk => if_pos hk, fun k hk => ?_, ⟨vA', vN', hP', ?_, fun g hg => ?_, fun g hg => ?_, hO', hS', hl'⟩, hc.mono fun k hk hF => ?_, fun g hg => (nil_own g hg).elim⟩
   ·by_cases c : k < w.heap.size
    ·exact Nat.lt_of_lt_of_le c hc.size
    ·simp only [if_neg c] at hk
     by_cases c2 : vA'.ownBlock = some k ∨ vN'.ownBlock = some k
     ·rcases c2 with c2 | c2
      ·exact ownS_lt hP'.ownA c2
      ·exact ownS_lt hP'.ownN c2
     ·simp [if_neg c2] at hk
   ·show (if m < w.heap.size then tag m else _) = i
    rw [if_pos hP.lt]; exact t1
   ·show (if g < w.heap.size then tag g else _) = i
    by_cases c : g < w.heap.size
    ·rw [if_pos c]
     rcases a1 g hg with a | a
     ·exact t2 g a
     ·omega
    ·rw [if_neg c, if_pos (.inl hg)]
   ·show (if g < w.heap.size then tag g else _) = i
    by_cases c : g < w.heap.size
    ·rw [if_pos c]
     rcases a2 g hg with a | a
     ·exact t3 g a
     ·omega
    ·rw [if_neg c, if_pos (.inr hg)]
   ·rcases hF with rfl | hF | hF
    ·exact t1
    ·exact t2 k hF
    ·exact t3 k hF
 remove := fun w tag i m s n hi h hT => by
  obtain ⟨vA, vN, hP, t1, t2, t3, hO, hS, hl⟩ := h
  refine (mremove_any m s.pts s.nums s.ever vA vN n w hP hO).mono ?_
  rintro e w' ⟨r, rfl, hI⟩
  rcases hI with ⟨h1, h2, hb⟩ | ⟨h1, h2, j, hj, hjn, vA', vN', hP', hc, a1, a2⟩
  ·exact ⟨r, s, rfl, .inl ⟨h1, h2, rfl⟩, MPost.same ⟨vA, vN, hP, t1, t2, t3, hO, hS, hl⟩ hT hb fun g hg => (nil_own g hg).elim⟩
  ·have hO' := hO.less hj
   obtain ⟨ts', hS', hl'⟩ := tri_ex w (s.pts.eraseIdx j) hO'.le hO'.near hO'.nd
   have hpl : (placeN s.nums n).toNat = j := by rw [← hjn, place_num hO.inc hj]; rfl
   refine ⟨r, ⟨s.pts.eraseIdx j, s.nums.eraseIdx j, s.ever, ts'⟩, rfl, .inr ⟨h1, h2, by rw [hpl], by rw [hpl], rfl⟩, tag, fun k _ => rfl, fun k hk => Nat.lt_of_lt_of_le (hT k hk) hc.size, ⟨vA', vN', hP', t1, fun g hg => t2 g (a1 g hg), fun g hg => t3 g (a2 g hg), hO', hS', hl'⟩, hc.mono fun k hk hF => ?_, fun g hg => (nil_own g hg).elim⟩
   rcases hF with rfl | hF | hF
   ·exact t1
   ·exact t2 k hF
   ·exact t3 k hF
 triangles := fun w tag i m s hi h hT => by
  have h' := h
  obtain ⟨vA, vN, hP, t1, t2, t3, hO, hS, hl⟩ := h
  refine (mtris_any m s.pts s.nums s.ever vA vN w hP hO).mono ?_
  rintro e w' ⟨v, ts, rfl, ho, hS2, hl2, hb⟩
  have et := hS2.unique hO.nd hS
  subst et
  refine ⟨v, rfl, ho, MPost.same h' hT hb fun g hg => ?_⟩
  rcases ho.2 with ⟨e, _⟩ | ⟨g', c', cur', e, hbg, _⟩
  ·rw [e] at hg; cases hg
  ·rw [e] at hg; cases hg; exact hbg
 locate := fun w tag i m s px py hi h hT => by
  have h' := h
  obtain ⟨vA, vN, hP, t1, t2, t3, hO, hS, hl⟩ := h
  refine (mlocate_any m s.pts s.nums s.ever vA vN px py w hP hO).mono ?_
  rintro e w' ⟨k, a, b, c, r, rfl, hL, hb⟩
  refine ⟨k, a, b, c, r, rfl, ?_, MPost.same h' hT hb fun g hg => (nil_own g hg).elim⟩
  rcases hL with hL | ⟨hf, hr, ts, a', b', c', hS2, hl2, hLP, e1, e2, e3⟩
  ·exact .inl hL
  ·have et := hS2.unique hO.nd hS
   rw [et] at hLP
   exact .inr ⟨hf, hr, a', b', c', hLP, e1, e2, e3⟩
 nearest := fun w tag i m s px py hi h hT => by
  have h' := h
  obtain ⟨vA, vN, hP, t1, t2, t3, hO, hS, hl⟩ := h
  refine (mnear_any m s.pts s.nums s.ever vA vN px py w hP hO).mono ?_
  rintro e w' ⟨n, r, rfl, hN, hb⟩
  exact ⟨n, r, rfl, hN, MPost.same h' hT hb fun g hg => (nil_own g hg).elim⟩
end Go.Proofs.YtgpapegpdfonpaaGreatDoor
