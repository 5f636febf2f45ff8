/-
  Points on one line; no points; the fixed triangle.
-/
import Derived.Test.YtgpapegpdfonpaaGreatEmptyC
import Derived.Deep.CutRange
import Derived.BigRegion
import Derived.BigQuiet
import Derived.Deep.DeepCutAuto
import Derived.Deep.CutBlock
namespace Go.Proofs.YtgpapegpdfonpaaGreat
set_option linter.unusedVariables false
set_option linter.unusedSimpArgs false
open Go.RowKit
attribute [local go_sem ↓] Go.wp_at_zero Go.wp_at_succ

set_option maxHeartbeats 4000000 in
set_option maxRecDepth 100000 in
theorem fills_none (va : Option Addr) (vc : Nat) (ta : Option Addr) (tc : Nat) (w : World) :
    Calls Tryz.prog 17 #[.slice va 0 vc, .slice ta 0 tc] w fun e w' => e = .returned (.bool true) ∧ Below w.heap.size w w' := by
  go_enter Tryz.func17, Tryz.ntmps17
  go_upto_region 2 with (go_at_call 28; refine (hull_none va vc _).mono ?_; rintro e w2 ⟨hv, rfl, hownh, hb2⟩; obtain ⟨ha, hc, rfl⟩ := own_zero hownh; clear hownh)
  go_wp2
  go_loopw [7] (fun i wr => i = .int .i64 0 ∧ wr = w2) (fun i _ => 0)
  case atStart => exact ⟨rfl, rfl⟩
  case round =>
    obtain ⟨rfl, rfl⟩ := hrel
    go_wp2_with (go_at_call 29; refine (area_none _ _ _ _ _ _).mono ?_; rintro e w3 ⟨rfl, rfl⟩)
    go_ret
    exact ⟨rfl, hb2⟩

set_option maxHeartbeats 8000000 in
set_option maxRecDepth 100000 in
theorem fills_flat (g gc : Nat) (ta : Option Addr) (tc : Nat) (l : List Pt) (w : World) (hl60 : l.length ≤ 60) (hnd : l.Nodup) (hnear : AllNear l) (hlp : 0 < l.length) (hg : g < w.heap.size) (hp : PtsAt w g 0 l)
    (hfl : ∀ is, InOrder l is → fan (cp l (cornersN l is)) (cornersN l is).length = 0) :
    Calls Tryz.prog 17 #[.slice (some ⟨g, 0, none⟩) l.length gc, .slice ta 0 tc] w fun e w' => e = .returned (.bool true) ∧ Below w.heap.size w w' := by
  have HH := hull_any g 0 gc l (l.length - 1) w (by omega) hg hp (fault_ok hl60 hnear hnd)
  have HN : Hid (AllNear l) := hnear
  have HFI : Hid (∀ is, InOrder l is → fan (cp l (cornersN l is)) (cornersN l is).length = 0) := hfl
  clear hfl hnear
  go_enter Tryz.func17, Tryz.ntmps17
  go_upto_region 2 with (go_at_call 28; refine HH.mono ?_; rintro e w2 ⟨hv, is, rfl, hio, hownh, hb2⟩)
  have hA := arr_of hio hnd
  have hcl := hA.le
  have hcp := hA.one hlp
  have FO : Hid (fan (cp l (cornersN l is)) (cornersN l is).length = 0) := HFI.out is hio
  generalize cornersN l is = c at *
  rcases own_shape hownh with ⟨_, h0⟩ | ⟨g8, c8, rfl⟩
  · omega
  have hps : PtsAt w2 g 0 l := hp.below hb2 hg
  have hns : NatsAt w2 g8 0 c := nats_own hownh
  have hg8 : g8 < w2.heap.size := (own_lt hownh).1
  have hgs : g < w2.heap.size := Nat.lt_of_lt_of_le hg hb2.size
  have HLT : Hid (∀ i, i < c.length → c.getD i 0 < l.length) := hA.lt
  clear hA hio hownh HH HFI hnd hp hg
  have l60 : (l.length : Int) ≤ 60 := by omega
  have c60 : (c.length : Int) ≤ 60 := by omega
  go_upto_block 0 with fail
  go_cut [7] (fun _ wx => wx = w2)
  case first =>
    as_aux_lemma =>
    go_wp2_with fail
    go_loopw [7] (fun i wr => ∃ k : Nat, k ≤ c.length ∧ i = .int .i64 k ∧ wr = w2) (fun i _ => c.length - (intOf i).toNat)
    case atStart => exact ⟨0, Nat.zero_le _, rfl, rfl⟩
    case round =>
      obtain ⟨k, hk, rfl, rfl⟩ := hrel
      by_cases hlt : k < c.length
      · have c0 := hns k hlt
        rw [Nat.zero_add] at c0
        have c1 := HLT.out k hlt
        generalize c.getD k 0 = x at *
        have d1 : decide ((x : Int) < 0) = false := decide_eq_false (by omega)
        have d2 : decide ((l.length : Int) ≤ (x : Int)) = false := decide_eq_false (by omega)
        have d3 : ¬ l.length ≤ x := by omega
        go_wp2
        go_roundw
        case rel => exact ⟨k + 1, by omega, by go_num, trivial⟩
        case measure => simp [intOf]; omega
      · go_wp2
        go_meet
        case rel => rfl
  case rest =>
    as_aux_lemma =>
    subst hcut
    generalize wc = W2 at *
    have AR := area_any g gc g8 c8 l c W2 hl60 (by omega) HN.out HLT.out hgs hps hg8 hns
    rw [FO.out] at AR
    go_wp2_with (go_at_call 29; refine AR.mono ?_; rintro e w3 ⟨rfl, hb3⟩)
    go_ret
    exact ⟨rfl, hb2.trans (hb3.mono hb2.size)⟩

/-! ### the fixed triangle -/
def l3 : List Pt := [(0, 0), (4, 0), (0, 3)]
theorem l3_nodup : l3.Nodup := by unfold l3; decide
theorem l3_near : AllNear l3 := by
  intro i hi
  have : i = 0 ∨ i = 1 ∨ i = 2 := by simp [l3] at hi; omega
  rcases this with rfl | rfl | rfl <;> exact ⟨by decide, by decide, by decide, by decide⟩
theorem on_line {l : List Pt} {is : List Nat} (hio : InOrder l is) (hnd : l.Nodup) (hall : AllOn l is) (hl : 2 ≤ l.length) {a b c : Nat} (ha : a < l.length) (hb : b < l.length) (hc : c < l.length) : sd (ptAt l a) (ptAt l b) (ptAt l c) = 0 := by
  have hlen := hio.len
  have h01 : ptAt l (is.getD 0 0) ≠ ptAt l (is.getD 1 0) := fun e => by
    have := ptAt_inj hnd (hio.lt _ (mem_getD (by omega))) (hio.lt _ (mem_getD (by omega))) e
    have := getD_inj hio.nodup (show 0 < is.length by omega) (show 1 < is.length by omega) this
    omega
  have on : ∀ k, k < l.length → sd (ptAt l (is.getD 0 0)) (ptAt l (is.getD 1 0)) (ptAt l k) = 0 := by
    intro k hk
    have hm : k ∈ is := hio.perm.mem_iff.2 (List.mem_range.2 hk)
    obtain ⟨j, hj, e⟩ := List.getElem_of_mem hm
    have e' : is.getD j 0 = k := by simp [hj, e]
    rcases Nat.lt_or_ge j 2 with h2 | h2
    · have : j = 0 ∨ j = 1 := by omega
      rcases this with rfl | rfl
      · rw [← e']; exact sd_A _ _
      · rw [← e']; exact sd_B _ _
    · have := hall j h2 hj
      rw [e'] at this
      exact (sg_zero_iff _).1 this
  exact col3 h01 (on a ha) (on b hb) (on c hc)

theorem tri3 {ts : List T3} (h : TriSpec l3 ts) : ts = [(0, 1, 2)] := by
  have hl : l3.length = 3 := rfl
  obtain ⟨is, hio, ⟨hall, _⟩ | ⟨t, p, q, r, BS, hm, hp⟩⟩ := h
  · exfalso
    have := on_line hio l3_nodup hall (by omega) (show 0 < l3.length by omega) (show 1 < l3.length by omega) (show 2 < l3.length by omega)
    revert this
    decide
  · have F := fill_ok hio l3_nodup l3_near (arr_of hio l3_nodup) (cornersN_nodup hio l3_nodup) BS hm hp
    have all : ∀ t ∈ ts, t = (0, 1, 2) := by
      intro t ht
      obtain ⟨⟨h0, h1, h2, h3, h4⟩, h5, _⟩ := F.tri t ht
      obtain ⟨x, y, z⟩ := t
      dsimp only at *
      rw [hl] at h3 h4
      have hx : x = 0 := by
        by_cases h : x = 0
        · exact h
        · exfalso
          have e1 : x = 1 := by omega
          have e2 : y = 2 := by omega
          have e3 : z = 2 := by omega
          subst e1 e2 e3
          revert h5; decide
      have hy : y = 1 ∨ y = 2 := by omega
      have hz : z = 1 ∨ z = 2 := by omega
      subst hx
      rcases hy with rfl | rfl <;> rcases hz with rfl | rfl
      · revert h5; decide
      · rfl
      · revert h5; decide
      · revert h5; decide
    match ts, all, F.srt, F.used 0 (by omega) with
    | [], _, _, hu => obtain ⟨t, ht, _⟩ := hu; simp at ht
    | [a], all, _, _ => rw [all a (by simp)]
    | a :: b :: r, all, hs, _ =>
      exfalso
      have h1 := (List.pairwise_cons.1 hs).1 b (by simp)
      rw [all a (by simp), all b (by simp)] at h1
      exact t3lt_irrefl _ h1

/-! ### Triangulate, alike: of any rows of one's own -/
theorem tri_shape {w : World} {base : Nat} {v : Value} {ts : List T3} (h : w.ownsRow base 53 3 v ts.length (flatT ts)) (hne : ts ≠ []) : ∃ gt ct, v = .slice (some ⟨gt, 0, none⟩) ts.length ct := by
  obtain ⟨hl, hn⟩ := h
  rcases hn with ⟨hn, h0⟩ | ⟨g', cap', cur, hv, hg, hh, h1, h2, h3, h4⟩
  · exact absurd (List.length_eq_zero_iff.1 h0) hne
  · exact ⟨g', cap', hv⟩

theorem spec_nil {ts : List T3} (h : TriSpec [] ts) : ts = [] := by
  obtain ⟨is, hio, ⟨_, e⟩ | ⟨t, p, q, r, BS, hm, hp⟩⟩ := h
  · exact e
  · have := BS.off.2.1
    rw [hio.len] at this
    simp at this
theorem nil_spec : TriSpec [] [] := ⟨[], ⟨by simp, fun i j _ h => by simp at h⟩, .inl ⟨fun j _ h => by simp at h, rfl⟩⟩

end Go.Proofs.YtgpapegpdfonpaaGreat
