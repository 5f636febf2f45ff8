/-
  plane.Fault and trigon.Hull.
-/
import Derived.Test.YtgpapegpdfonpaaGreatDoorWalksH
namespace Go.Proofs.YtgpapegpdfonpaaGreatDoor
set_option linter.unusedVariables false
set_option linter.unusedSimpArgs false
open Go.RowKit
attribute [local go_sem ↓] Go.wp_at_zero Go.wp_at_succ

theorem ptAt_eq (l : List Pt) (i : Nat) : ptAt l i = l.getD i (0, 0) := rfl
theorem map_range_ptAt (l : List Pt) : (List.range l.length).map (ptAt l) = l := by
  apply List.ext_getElem
  · simp
  · intro i h1 h2
    have : i < l.length := h2
    simp [ptAt_eq, this]

theorem InOrder.len {l : List Pt} {is : List Nat} (h : InOrder l is) : is.length = l.length := by simpa using h.perm.length_eq
theorem InOrder.lt {l : List Pt} {is : List Nat} (h : InOrder l is) : ∀ i ∈ is, i < l.length := fun i hi => by simpa using h.perm.mem_iff.1 hi
theorem InOrder.nodup {l : List Pt} {is : List Nat} (h : InOrder l is) : is.Nodup := h.perm.symm.nodup List.nodup_range
theorem InOrder.pts {l : List Pt} {is : List Nat} (h : InOrder l is) : (is.map (ptAt l)).Perm l := by
  have := h.perm.map (ptAt l)
  rwa [map_range_ptAt] at this

/-- if no two that follow each other are the same all stand in order -/
theorem InOrder.ordered {l : List Pt} {is : List Nat} (h : InOrder l is) (hd : ∀ i, i + 1 < is.length → ptAt l (is.getD i 0) ≠ ptAt l (is.getD (i + 1) 0)) : Ordered (is.map (ptAt l)) := by
  have step : ∀ i, i + 1 < is.length → plt (ptAt l (is.getD i 0)) (ptAt l (is.getD (i + 1) 0)) := fun i hi => by
    rcases plt_tri (ptAt l (is.getD i 0)) (ptAt l (is.getD (i + 1) 0)) with k | k | k
    · exact k
    · exact absurd k (hd i hi)
    · exact absurd k (h.sorted i (i + 1) (by omega) hi)
  have far : ∀ d i, i + d + 1 < is.length → plt (ptAt l (is.getD i 0)) (ptAt l (is.getD (i + d + 1) 0)) := by
    intro d
    induction d with
    | zero => intro i hi; exact step i hi
    | succ d ih => intro i hi; exact plt_trans (ih i (by omega)) (step (i + d + 1) hi)
  refine List.pairwise_iff_getElem.2 fun i j hi hj hij => ?_
  have hi' : i < is.length := by simpa using hi
  have hj' : j < is.length := by simpa using hj
  have := far (j - i - 1) i (by omega)
  rw [show i + (j - i - 1) + 1 = j by omega] at this
  simpa [hi', hj'] using this

theorem ordered_nodup {ps : List Pt} (h : Ordered ps) : ps.Nodup := h.imp fun hab e => by subst e; exact plt_irrefl _ hab

theorem InOrder.nodup_of {l : List Pt} {is : List Nat} (h : InOrder l is) (hd : ∀ i, i + 1 < is.length → ptAt l (is.getD i 0) ≠ ptAt l (is.getD (i + 1) 0)) : l.Nodup :=
  h.pts.nodup (ordered_nodup (h.ordered hd))
theorem InOrder.twice {l : List Pt} {is : List Nat} (h : InOrder l is) {i : Nat} (hi : i + 1 < is.length) (e : ptAt l (is.getD i 0) = ptAt l (is.getD (i + 1) 0)) : ¬ l.Nodup := by
  intro hn
  have hp : (is.map (ptAt l)).Nodup := h.pts.symm.nodup hn
  have := List.pairwise_iff_getElem.1 hp i (i + 1) (by simp; omega) (by simpa using hi) (by omega)
  apply this
  have hi' : i < is.length := by omega
  simpa [hi, hi'] using e
theorem InOrder.ordered_of {l : List Pt} {is : List Nat} (h : InOrder l is) (hn : l.Nodup) : Ordered (is.map (ptAt l)) :=
  h.ordered fun i hi e => h.twice hi e hn

theorem mem_getD {is : List Nat} {k : Nat} (h : k < is.length) : is.getD k 0 ∈ is := by
  have : is.getD k 0 = is[k] := by simp [h]
  rw [this]; exact List.getElem_mem h

def twiceB (l : List Pt) : Bool := !decide l.Nodup

set_option maxHeartbeats 2000000 in
theorem anyTwice_any (b off cap : Nat) (l : List Pt) (n : Nat) (w : World) (hn : l.length = n + 1) (hl : l.length ≤ 60) (hb : b < w.heap.size) (hp : PtsAt w b off l) :
    Calls Tryz.prog 66 #[.slice (some ⟨b, off, none⟩) l.length cap] w fun e w' => e = .returned (.bool (twiceB l)) ∧ Below w.heap.size w w' := by
  have HO := order_any b off cap l n w hn hl hb hp
  clear hn
  go_enter Tryz.func66, Tryz.ntmps66
  go_wp2_with (go_at_call 28; refine HO.mono ?_; rintro e w1 ⟨g, is, rfl, hg, hgs, hb1, hns, hfz, hio⟩)
  have hp1 := hp.below hb1 hb
  have il := hio.len
  have HIL : Hid (is.length = l.length) := il
  clear HO hp hfz il
  go_loopw [4] (fun i wr => ∃ k : Nat, 1 ≤ k ∧ k ≤ l.length + 1 ∧ i = .int .i64 k ∧ Below w1.heap.size w1 wr ∧ ∀ j, j + 1 < k → j + 1 < is.length → ptAt l (is.getD j 0) ≠ ptAt l (is.getD (j + 1) 0))
    (fun i _ => l.length + 1 - (intOf i).toNat)
  case atStart => exact ⟨1, by omega, by omega, rfl, Below.refl _ _, fun j h => by omega⟩
  case round =>
    obtain ⟨k, hk1, hk, rfl, hnx, hall⟩ := hrel
    by_cases hlt : k < l.length
    · obtain ⟨k', rfl⟩ : ∃ k', k = k' + 1 := ⟨k - 1, by omega⟩
      have c1 := (hns.below hnx hgs) k' (by rw [HIL.out]; omega)
      have c2 := (hns.below hnx hgs) (k' + 1) (by rw [HIL.out]; omega)
      rw [Nat.zero_add] at c1 c2
      have i1 := hio.lt (is.getD k' 0) (mem_getD (by rw [HIL.out]; omega))
      have i2 := hio.lt (is.getD (k' + 1) 0) (mem_getD (by rw [HIL.out]; omega))
      have hpr := hp1.below hnx (by omega : b < w1.heap.size)
      obtain ⟨d0, d1⟩ := hpr _ i1
      obtain ⟨d2, d3⟩ := hpr _ i2
      have e1 : ptAt l (is.getD k' 0) = ((l.getD (is.getD k' 0) (0, 0)).1, (l.getD (is.getD k' 0) (0, 0)).2) := rfl
      have e2 : ptAt l (is.getD (k' + 1) 0) = ((l.getD (is.getD (k' + 1) 0) (0, 0)).1, (l.getD (is.getD (k' + 1) 0) (0, 0)).2) := rfl
      have tw : ∀ e : ptAt l (is.getD k' 0) = ptAt l (is.getD (k' + 1) 0), ¬ l.Nodup := fun e => hio.twice (by rw [HIL.out]; omega) e
      have hstep : ∀ (h : ptAt l (is.getD k' 0) ≠ ptAt l (is.getD (k' + 1) 0)), ∀ j, j + 1 < k' + 1 + 1 → j + 1 < is.length → ptAt l (is.getD j 0) ≠ ptAt l (is.getD (j + 1) 0) := fun h j h1 h2 => by
        by_cases e : j = k'
        · subst e; exact h
        · exact hall j (by omega) h2
      clear hall hio
      generalize is.getD k' 0 = x at *
      generalize is.getD (k' + 1) 0 = y at *
      rw [e1, e2] at tw hstep
      clear e1 e2 hpr hp1 hns
      generalize (l.getD x (0, 0)).1 = xa at *; generalize (l.getD x (0, 0)).2 = xb at *
      generalize (l.getD y (0, 0)).1 = ya at *; generalize (l.getD y (0, 0)).2 = yb at *
      have z1 : (0 : Int) ≤ (k' : Int) := by omega
      have z2 : (k' : Int) < (l.length : Int) := by omega
      have z3 : (0 : Int) ≤ (k' : Int) + 1 := by omega
      have z4 : (k' : Int) + 1 < (l.length : Int) := by omega
      have z5 : (0 : Int) ≤ (x : Int) := by omega
      have z6 : (x : Int) < (l.length : Int) := by omega
      have z7 : (0 : Int) ≤ (y : Int) := by omega
      have z8 : (y : Int) < (l.length : Int) := by omega
      have z9 : IntKind.i64.wrap (k' : Int) = (k' : Int) := wrap_id (by omega) (by omega)
      by_cases ea : xa = ya
      · subst ea
        by_cases eb : xb = yb
        · subst eb
          have TW : Hid (¬ l.Nodup) := tw rfl
          clear tw
          go_wp2_with fail
          go_region_held3 (fun w' => ∀ b o, w'.cell? ⟨b, o, none⟩ = wr.cell? ⟨b, o, none⟩) (exact fun _ _ => rfl) (first | fail)
          go_wp2
          go_ret
          refine ⟨?_, hb1.trans ((hnx.drew).mono hb1.size)⟩
          have : twiceB l = true := by unfold twiceB; rw [decide_eq_false TW.out]; rfl
          rw [this]; rfl
        · go_wp2_with fail
          go_region_held3 (fun w' => ∀ b o, w'.cell? ⟨b, o, none⟩ = wr.cell? ⟨b, o, none⟩) (exact fun _ _ => rfl) (first | fail)
          go_wp2
          go_roundw
          case rel => exact ⟨k' + 1 + 1, by omega, by omega, by go_num, hnx.drew, hstep fun e => eb (Prod.mk.inj e).2⟩
          case measure => simp [intOf]; omega
      · go_wp2_with fail
        go_region_held3 (fun w' => ∀ b o, w'.cell? ⟨b, o, none⟩ = wr.cell? ⟨b, o, none⟩) (exact fun _ _ => rfl) (first | fail)
        go_wp2
        go_roundw
        case rel => exact ⟨k' + 1 + 1, by omega, by omega, by go_num, hnx.drew, hstep fun e => ea (Prod.mk.inj e).1⟩
        case measure => simp [intOf]; omega
    · go_wp2
      go_ret
      refine ⟨?_, hb1.trans (hnx.mono hb1.size)⟩
      have : twiceB l = false := by
        unfold twiceB
        rw [decide_eq_true (hio.nodup_of fun j hj => hall j (by rw [HIL.out] at hj; omega) hj)]; rfl
      rw [this]; rfl

/-- what is wrong with points -/
def faultN (l : List Pt) : Int := if 60 < l.length then 2 else if anyFarB l = true then 1 else if twiceB l = true then 3 else 0

set_option maxHeartbeats 800000 in
theorem limit_many (a : Option Addr) (n cap : Nat) (w : World) (h : 60 < n) :
    Calls Tryz.prog 65 #[.slice a n cap] w fun e w' => e = .returned (.int .i64 2) ∧ w' = w := by
  have hc : (60 : Int) < (n : Int) := by omega
  go_enter Tryz.func65, Tryz.ntmps65
  go_wp2
  go_ret
  exact ⟨rfl, rfl⟩

set_option maxHeartbeats 800000 in
theorem limit_any (b off cap : Nat) (l : List Pt) (w : World) (hl : l.length ≤ 60) (hb : b < w.heap.size) (hp : PtsAt w b off l) :
    Calls Tryz.prog 65 #[.slice (some ⟨b, off, none⟩) l.length cap] w fun e w' => e = .returned (.int .i64 (if anyFarB l = true then 1 else 0)) ∧ Below w.heap.size w w' := by
  have HF := anyFar_any b off cap l w (by omega) hb hp
  have hc : ¬ ((60 : Int) < (l.length : Int)) := by omega
  by_cases hf : anyFarB l = true
  · rw [if_pos hf]
    go_enter Tryz.func65, Tryz.ntmps65
    go_wp2_with (go_at_call 16; refine HF.mono ?_; rintro e w1 ⟨rfl, hb1⟩; rw [hf])
    go_ret
    exact ⟨rfl, hb1⟩
  · have hf' : anyFarB l = false := by simpa using hf
    clear hf
    rw [hf', if_neg (by simp)]
    go_enter Tryz.func65, Tryz.ntmps65
    go_wp2_with (go_at_call 16; refine HF.mono ?_; rintro e w1 ⟨rfl, hb1⟩; rw [hf'])
    go_ret
    exact ⟨rfl, hb1⟩

set_option maxHeartbeats 800000 in
theorem fault_many (a : Option Addr) (n cap : Nat) (w : World) (h : 60 < n) :
    Calls Tryz.prog 26 #[.slice a n cap] w fun e w' => e = .returned (.int .i64 2) ∧ w' = w := by
  go_enter Tryz.func26, Tryz.ntmps26
  go_wp2_with (go_at_call 65; refine (limit_many a n cap _ h).mono ?_; rintro e w1 ⟨rfl, rfl⟩)
  go_ret
  exact ⟨rfl, rfl⟩

set_option maxHeartbeats 800000 in
theorem fault_any (b off cap : Nat) (l : List Pt) (n : Nat) (w : World) (hn : l.length = n + 1) (hl : l.length ≤ 60) (hb : b < w.heap.size) (hp : PtsAt w b off l) :
    Calls Tryz.prog 26 #[.slice (some ⟨b, off, none⟩) l.length cap] w fun e w' => e = .returned (.int .i64 (faultN l)) ∧ Below w.heap.size w w' := by
  have HF := limit_any b off cap l w hl hb hp
  have HT := fun W (hb' : b < W.heap.size) (hp' : PtsAt W b off l) => anyTwice_any b off cap l n W hn hl hb' hp'
  unfold faultN
  rw [if_neg (by omega)]
  clear hn
  by_cases hf : anyFarB l = true
  · rw [if_pos hf]
    rw [if_pos hf] at HF
    go_enter Tryz.func26, Tryz.ntmps26
    go_wp2_with (go_at_call 65; refine HF.mono ?_; rintro e w1 ⟨rfl, hb1⟩)
    go_ret
    exact ⟨rfl, hb1⟩
  · have hf' : anyFarB l = false := by simpa using hf
    clear hf
    rw [hf', if_neg (by simp)]
    rw [hf', if_neg (by simp)] at HF
    by_cases ht : twiceB l = true
    · rw [if_pos ht]
      go_enter Tryz.func26, Tryz.ntmps26
      go_wp2_with (first
        | (go_at_call 65; refine HF.mono ?_; rintro e w1 ⟨rfl, hb1⟩)
        | (go_at_call 66; refine (HT _ (Nat.lt_of_lt_of_le hb hb1.size) (hp.below hb1 hb)).mono ?_; rintro e w2 ⟨rfl, hb2⟩; rw [ht]))
      go_ret
      exact ⟨rfl, hb1.trans (hb2.mono hb1.size)⟩
    · have ht' : twiceB l = false := by simpa using ht
      clear ht
      rw [ht', if_neg (by simp)]
      go_enter Tryz.func26, Tryz.ntmps26
      go_wp2_with (first
        | (go_at_call 65; refine HF.mono ?_; rintro e w1 ⟨rfl, hb1⟩)
        | (go_at_call 66; refine (HT _ (Nat.lt_of_lt_of_le hb hb1.size) (hp.below hb1 hb)).mono ?_; rintro e w2 ⟨rfl, hb2⟩; rw [ht']))
      go_ret
      exact ⟨rfl, hb1.trans (hb2.mono hb1.size)⟩

theorem near_of_far {l : List Pt} (h : anyFarB l = false) : AllNear l := by
  intro i hi
  unfold anyFarB at h
  rw [List.any_eq_false] at h
  have := h l[i] (List.getElem_mem hi)
  have e1 : px l i = l[i].1 := by simp [px, hi]
  have e2 : py l i = l[i].2 := by simp [py, hi]
  rw [e1, e2]
  exact farB_near (by simpa using this)

set_option maxHeartbeats 800000 in
theorem hull_many (a : Option Addr) (n cap : Nat) (w : World) (h : 60 < n) :
    Calls Tryz.prog 43 #[.slice a n cap] w fun e w' => e = .returned (.tuple #[.slice none 0 0, .int .i64 2]) ∧ Below w.heap.size w w' := by
  go_enter Tryz.func43, Tryz.ntmps43
  go_wp2_with (go_at_call 26; refine (fault_many a n cap _ h).mono ?_; rintro e w1 ⟨rfl, rfl⟩)
  go_ret2
  exact ⟨rfl, Below.refl _ _⟩

set_option maxHeartbeats 800000 in
theorem hull_fault (b off cap : Nat) (l : List Pt) (n : Nat) (w : World) (hn : l.length = n + 1) (hl : l.length ≤ 60) (hb : b < w.heap.size) (hp : PtsAt w b off l) (hf : faultN l ≠ 0) :
    Calls Tryz.prog 43 #[.slice (some ⟨b, off, none⟩) l.length cap] w fun e w' => e = .returned (.tuple #[.slice none 0 0, .int .i64 (faultN l)]) ∧ Below w.heap.size w w' := by
  have HF := fault_any b off cap l n w hn hl hb hp
  have hf' : (faultN l != 0) = true := by simpa using hf
  clear hn hf
  generalize faultN l = f at *
  go_enter Tryz.func43, Tryz.ntmps43
  go_wp2_with (go_at_call 26; refine HF.mono ?_; rintro e w1 ⟨rfl, hb1⟩)
  go_ret2
  exact ⟨rfl, hb1⟩

theorem fault_zero {l : List Pt} (h : faultN l = 0) : l.length ≤ 60 ∧ anyFarB l = false ∧ l.Nodup := by
  unfold faultN at h
  split at h
  · omega
  · split at h
    · omega
    · rename_i h1
      split at h
      · omega
      · rename_i h2
        exact ⟨by omega, by simpa using h1, by simpa [twiceB] using h2⟩

set_option maxHeartbeats 400000 in
theorem corners_all (B b off cap g : Nat) (l : List Pt) (is : List Nat) (w : World) (n : Nat) (hn : l.length = n + 1) (hl : l.length ≤ 60) (hio : InOrder l is) (A : AskAt w B b off cap l) (hnear : AllNear l) (hnd : l.Nodup)
    (hg : g < w.heap.size) (his : NatsAt w g 0 is) :
    Calls Tryz.prog 89 #[.slice (some ⟨g, 0, none⟩) l.length l.length, askV B] w fun e w' =>
      ∃ v, e = .returned v ∧ w'.ownsRow w.heap.size 3 1 v (cornersN l is).length ((cornersN l is).map toV) ∧ Below w.heap.size w w' := by
  have il := hio.len
  have ho := hio.ordered_of hnd
  have hlt := hio.lt
  by_cases h2 : 2 ≤ is.length
  · have := corners_many B b off cap g l.length l is w hl hlt (by omega) A hnear hg his h2 ho
    rw [il] at this
    exact this
  · have h1 : is.length = 1 := by omega
    have h1' : l.length = 1 := by omega
    obtain ⟨i, rfl⟩ := List.length_eq_one_iff.1 h1
    have := corners_one B b off cap g l.length l i w A hg his
    rw [show (Value.slice (some ⟨g, 0, none⟩) l.length l.length) = Value.slice (some ⟨g, 0, none⟩) 1 l.length by rw [h1']]
    exact this

set_option maxHeartbeats 800000 in
theorem hull_any (b off cap : Nat) (l : List Pt) (n : Nat) (w : World) (hn : l.length = n + 1) (hb : b < w.heap.size) (hp : PtsAt w b off l) (hf : faultN l = 0) :
    Calls Tryz.prog 43 #[.slice (some ⟨b, off, none⟩) l.length cap] w fun e w' =>
      ∃ v is, e = .returned (.tuple #[v, .int .i64 0]) ∧ InOrder l is ∧ w'.ownsRow w.heap.size 3 1 v (cornersN l is).length ((cornersN l is).map toV) ∧ Below w.heap.size w w' := by
  obtain ⟨hl, hfar, hnd⟩ := fault_zero hf
  have hnear := near_of_far hfar
  have HF := fault_any b off cap l n w hn hl hb hp
  rw [hf] at HF
  have HO := fun W (hb' : b < W.heap.size) (hp' : PtsAt W b off l) => order_any b off cap l n W hn hl hb' hp'
  have HC := fun B g is W => corners_all B b off cap g l is W n hn hl
  clear hn hf hfar
  go_enter Tryz.func43, Tryz.ntmps43
  go_wp2_with (first
    | (go_at_call 26; refine HF.mono ?_; rintro e w1 ⟨rfl, hb1⟩)
    | (go_at_call 28; refine (HO _ (Nat.lt_of_lt_of_le hb hb1.size) (hp.below hb1 hb)).mono ?_; rintro e w2 ⟨g, is, rfl, hg, hgs, hb2, hns, hfz, hio⟩)
    | (go_at_call 17; refine (askOf_any _ _ _ _).mono ?_; rintro e w3 ⟨B, hB1, hB2, hcB, rfl, hb3⟩
       have hW3 : Below w.heap.size w w3 := (hb1.trans (hb2.mono hb1.size)).trans (hb3.mono (hb1.trans (hb2.mono hb1.size)).size)
       have A : AskAt w3 B b off cap l := ⟨hB2, Nat.lt_of_lt_of_le hb hW3.size, hcB, hp.below hW3 hb⟩
       have hns3 := hns.below hb3 hgs
       have hg3 : g < w3.heap.size := Nat.lt_of_lt_of_le hgs hb3.size)
    | (go_at_call 89; refine (HC B g is _ hio A hnear hnd hg3 hns3).mono ?_; rintro e w4 ⟨v, rfl, hown, hb4⟩))
  go_ret2
  exact ⟨v, is, rfl, hio, own_mono hown hW3.size, hW3.trans (hb4.mono hW3.size)⟩

end Go.Proofs.YtgpapegpdfonpaaGreatDoor
