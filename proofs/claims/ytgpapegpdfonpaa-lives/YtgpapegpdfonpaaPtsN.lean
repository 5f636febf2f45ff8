/-
  mesh.Points.Triangles, walked.
-/
import Derived.Test.YtgpapegpdfonpaaPtsG
import Derived.Test.YtgpapegpdfonpaaPtsD
namespace Go.Proofs.Ytgpapegpdfonpaa
set_option linter.unusedVariables false
set_option linter.unusedSimpArgs false
open Go.RowKit
attribute [local go_sem ↓] Go.wp_at_zero Go.wp_at_succ

/-- a corner behind i triangles and k corners that were renumbered -/
def renV (ts : List T3) (nums : List Int) (i k j c : Nat) : Int := if j < i ∨ (j = i ∧ c < k) then nums.getD (nth3 (ts.getD j (0, 0, 0)) c).toNat 0 else nth3 (ts.getD j (0, 0, 0)) c
structure RowT (w : World) (g cap : Nat) (ts : List T3) (nums : List Int) (i k : Nat) : Prop where
  out : ∃ cur, w.heap[g]? = some (.cells cur 42 (0, 0)) ∧ cur.size = cap * 3 ∧ ∀ j c, j < ts.length → c < 3 → cur[j * 3 + c]? = some (.int .i64 (renV ts nums i k j c))
section
variable {w : World} {g cap : Nat} {ts : List T3} {nums : List Int} {i k : Nat}
theorem enc_nth (t : T3) {c : Nat} (hc : c < 3) : (encT t)[c]? = some (.int .i64 (nth3 t c)) := by
  have : c = 0 ∨ c = 1 ∨ c = 2 := by omega
  rcases this with rfl | rfl | rfl <;> rfl
theorem RowT.start {base : Nat} (h : w.ownsRow base 42 3 (.slice (some ⟨g, 0, none⟩) ts.length cap) ts.length (flatT ts)) : RowT w g cap ts nums 0 0 := by
  rcases h.2 with ⟨e, _⟩ | ⟨g', cap', cur, e, _, hg, hnc, _, hcs, htk⟩
  · cases e
  · cases e
    refine ⟨cur, hg, hcs, fun j c hj hc => ?_⟩
    have f := flatT_get ts j c hc hj
    rw [← htk, List.getElem?_take_of_lt (by omega), Array.getElem?_toList, enc_nth _ hc] at f
    have eg : ts.getD j (0, 0, 0) = ts[j] := by simp [hj]
    unfold renV
    rw [if_neg (by omega), eg]; exact f
theorem RowT.next (h : RowT w g cap ts nums i 3) : RowT w g cap ts nums (i + 1) 0 := by
  obtain ⟨cur, hg, hcs, hc⟩ := h.out
  refine ⟨cur, hg, hcs, fun j c hj hc3 => ?_⟩
  rw [hc j c hj hc3]
  unfold renV
  by_cases e : j < i ∨ (j = i ∧ c < 3)
  · rw [if_pos e, if_pos (by omega)]
  · rw [if_neg e, if_neg (by omega)]
theorem RowT.put (h : RowT w g cap ts nums i k) (hi : i < ts.length) (hk : k < 3) (hcap : ts.length ≤ cap) (q : Nat) : RowT ((w.drewN q).setCell ⟨g, i * 3 + k, none⟩ (.int .i64 (nums.getD (nth3 (ts.getD i (0, 0, 0)) k).toNat 0))) g cap ts nums i (k + 1) := by
  obtain ⟨cur, hg, hcs, hc⟩ := h.out
  have st := heap_setCell_same (w.drewN q) g (i * 3 + k) _ _ (.int .i64 (nums.getD (nth3 (ts.getD i (0, 0, 0)) k).toNat 0)) hg
  refine ⟨_, st, by simpa using hcs, fun j c hj hc3 => ?_⟩
  rw [Array.getElem?_setIfInBounds]
  by_cases e : i * 3 + k = j * 3 + c
  · have e1 : j = i := by omega
    have e2 : c = k := by omega
    subst e1 e2
    rw [if_pos rfl, if_pos (by omega)]
    unfold renV
    rw [if_pos (by omega)]
  · rw [if_neg e, hc j c hj hc3]
    unfold renV
    by_cases e' : j < i ∨ (j = i ∧ c < k)
    · rw [if_pos e', if_pos (by omega)]
    · rw [if_neg e', if_neg (by omega)]
theorem RowT.cell (h : RowT w g cap ts nums i k) {j c : Nat} (hj : j < ts.length) (hc : c < 3) : w.cell? ⟨g, j * 3 + c, none⟩ = some (.int .i64 (renV ts nums i k j c)) ∧ w.frozen? ⟨g, j * 3 + c, none⟩ = false := by
  obtain ⟨cur, hg, hcs, hcc⟩ := h.out
  have := hcc j c hj hc
  simp [World.cell?, World.frozen?, hg, this]
theorem RowT.fin {base : Nat} (h : RowT w g cap ts nums ts.length 0) (hb : base ≤ g) (hnc : ts.length ≤ cap) (hcm : cap ≤ maxLen) : w.ownsRow base 42 3 (.slice (some ⟨g, 0, none⟩) ts.length cap) ts.length (flatT (ts.map (numT nums))) := by
  obtain ⟨cur, hg, hcs, hc⟩ := h.out
  refine ⟨by rw [flatT_length, List.length_map], .inr ⟨g, cap, cur, rfl, hb, hg, hnc, hcm, hcs, ?_⟩⟩
  apply List.ext_getElem?
  intro q
  by_cases hq : q < ts.length * 3
  · rw [List.getElem?_take_of_lt hq, Array.getElem?_toList]
    have e : q = q / 3 * 3 + q % 3 := by omega
    have hj : q / 3 < ts.length := by omega
    have hc3 : q % 3 < 3 := by omega
    rw [e, hc _ _ hj hc3, flatT_get _ _ _ hc3 (by rw [List.length_map]; exact hj), enc_nth _ hc3]
    unfold renV
    have eg : ts.getD (q / 3) (0, 0, 0) = ts[q / 3] := by simp [hj]
    rw [if_pos (by omega), eg, List.getElem_map]
    unfold numT nth3
    have : q % 3 = 0 ∨ q % 3 = 1 ∨ q % 3 = 2 := by omega
    rcases this with h | h | h <;> simp [h]
  · rw [List.getElem?_eq_none (by simp; omega), List.getElem?_eq_none (by rw [flatT_length, List.length_map]; omega)]
end

theorem idx_tri0 (x y z : Int) (w : World) : (Instr.index 42 (.agg #[.int .i64 x, .int .i64 y, .int .i64 z]) (.int .i64 0)).run Try.prog w = .ok (.int .i64 x) w := by kernel_rfl
theorem idx_tri1 (x y z : Int) (w : World) : (Instr.index 42 (.agg #[.int .i64 x, .int .i64 y, .int .i64 z]) (.int .i64 1)).run Try.prog w = .ok (.int .i64 y) w := by kernel_rfl
theorem idx_tri2 (x y z : Int) (w : World) : (Instr.index 42 (.agg #[.int .i64 x, .int .i64 y, .int .i64 z]) (.int .i64 2)).run Try.prog w = .ok (.int .i64 z) w := by kernel_rfl
theorem PRow.keepT {w w' : World} {m : Nat} {pts : List Pt} {nums : List Int} {ever : Nat} {vA vN : Value} (h : PRow w m pts nums ever vA vN) (h1 : KeepsT 76 w w') (h2 : KeepsT 23 w w') (h3 : KeepsT 3 w w') : PRow w' m pts nums ever vA vN :=
  ⟨h1 _ _ h.blk, h2.own h.ownA, h3.own h.ownN⟩
set_option maxRecDepth 100000 in
set_option maxHeartbeats 8000000 in
theorem pTris_any (m : Nat) (pts : List Pt) (nums : List Int) (ever : Nat) (vA vN : Value) (w : World) (H : PRow w m pts nums ever vA vN) (hOk : MOk pts nums ever) :
    Calls Try.prog 56 #[.pointer (some ⟨m, 0, none⟩)] w fun e w' =>
      ∃ v ts, e = .returned v ∧ w'.ownsRow w.heap.size 42 3 v ts.length (flatT (ts.map (numT nums))) ∧ TriSpec pts ts ∧ ts.length ≤ 4000 ∧ Below w.heap.size w w' := by
  have HT := ptris_any m pts nums ever vA vN w H hOk
  obtain ⟨na, nc, rfl⟩ := ownS_any H.ownN
  have HH : Hid (PRow w m pts nums ever vA (.slice na nums.length nc)) := H
  have HOK : Hid (MOk pts nums ever) := hOk
  have hm0 := H.lt
  have hn60 : nums.length ≤ 60 := by have := hOk.le; have := hOk.len; omega
  clear H hOk
  go_enter Try.func56, Try.ntmps56
  go_upto_region 2 with (first | (go_at_call 76; refine HT.mono ?_; rintro e w1 ⟨v, ts, rfl, hown, hsp, hlen, hb1⟩))
  have HSP : Hid (TriSpec pts ts ∧ ts.length ≤ 4000) := ⟨hsp, hlen⟩
  have HG : Hid (GoodT pts ts) := good_of (fault_ok HOK.out.le HOK.out.near HOK.out.nd) hsp hlen
  have HB1 : Hid (Below w.heap.size w w1) := hb1
  have HH1 : Hid (PRow w1 m pts nums ever vA (.slice na nums.length nc)) := HH.out.below hb1
  by_cases ht0 : ts = []
  · subst ht0
    obtain ⟨ta, tc, rfl⟩ := ownS_any hown
    have HOW : Hid (w1.ownsRow w.heap.size 42 3 (.slice ta 0 tc) 0 []) := hown
    clear hown hsp HT
    go_wp2_with fail
    go_loopw [11] (fun s11 wr => s11 = .int .i64 0 ∧ wr = w1) (fun _ _ => 0)
    case atStart => exact ⟨rfl, rfl⟩
    case round =>
      obtain ⟨rfl, rfl⟩ := hrel
      go_wp2
      go_ret
      exact ⟨_, [], rfl, HOW.out, HSP.out.1, HSP.out.2, HB1.out⟩
  · have hl0 := List.length_pos_iff.2 ht0
    obtain ⟨g, tc, rfl, hgb, hnc, hcm⟩ : ∃ g tc, v = .slice (some ⟨g, 0, none⟩) ts.length tc ∧ w.heap.size ≤ g ∧ ts.length ≤ tc ∧ tc ≤ maxLen := by
      rcases hown.2 with ⟨_, h⟩ | ⟨g, cap, cur, e, h1, _, h2, h3, _⟩
      · omega
      · exact ⟨g, cap, e, h1, h2, h3⟩
    have HRT : Hid (RowT w1 g tc ts nums 0 0) := RowT.start hown
    clear hown hsp HT ht0 hb1
    go_wp2_with fail
    go_loopw [11] (fun s11 wr => ∃ i : Nat, i ≤ ts.length ∧ s11 = .int .i64 i ∧ RowT wr g tc ts nums i 0 ∧ Below w.heap.size w wr ∧ PRow wr m pts nums ever vA (.slice na nums.length nc)) (fun i _ => ts.length - (intOf i).toNat)
    case atStart => exact ⟨0, Nat.zero_le _, rfl, HRT.out, HB1.out, HH1.out⟩
    case round =>
      obtain ⟨i, hi, rfl, hR, hb, hP⟩ := hrel
      have HR : Hid (RowT wr g tc ts nums i 0) := hR
      have HB : Hid (Below w.heap.size w wr) := hb
      have HP : Hid (PRow wr m pts nums ever vA (.slice na nums.length nc)) := hP
      clear hR hb hP
      by_cases hil : i < ts.length
      · have y0 : (0 : Int) ≤ (i : Int) := by omega
        have y1 : (i : Int) < (ts.length : Int) := by omega
        have y4 : IntKind.i64.wrap ((i : Int) + 1) = (i : Int) + 1 := wrap_id (by omega) (by omega)
        have hmem : ts.getD i (0, 0, 0) ∈ ts := by
          have : ts.getD i (0, 0, 0) = ts[i] := by simp [hil]
          rw [this]; exact List.getElem_mem hil
        obtain ⟨r1, r2, r3, r4, r5, r6⟩ := HG.out.nums _ hmem
        have hln := HOK.out.len
        obtain ⟨x, ex⟩ : ∃ x : Nat, (ts.getD i (0, 0, 0)).1 = (x : Int) := ⟨_, (Int.toNat_of_nonneg r1).symm⟩
        obtain ⟨y, ey⟩ : ∃ y : Nat, (ts.getD i (0, 0, 0)).2.1 = (y : Int) := ⟨_, (Int.toNat_of_nonneg r3).symm⟩
        obtain ⟨z, ez⟩ : ∃ z : Nat, (ts.getD i (0, 0, 0)).2.2 = (z : Int) := ⟨_, (Int.toNat_of_nonneg r5).symm⟩
        have hx : x < nums.length := by omega
        have hy : y < nums.length := by omega
        have hz : z < nums.length := by omega
        have EX : Hid (nth3 (ts.getD i (0, 0, 0)) 0 = (x : Int)) := ex
        have EY : Hid (nth3 (ts.getD i (0, 0, 0)) 1 = (y : Int)) := ey
        have EZ : Hid (nth3 (ts.getD i (0, 0, 0)) 2 = (z : Int)) := ez
        have c0 : wr.cell? ⟨g, i * 3, none⟩ = some (.int .i64 (x : Int)) := by have := (HR.out.cell hil (show 0 < 3 by omega)).1; unfold renV at this; rw [if_neg (by omega), EX.out] at this; exact this
        have c1 : wr.cell? ⟨g, i * 3 + 1, none⟩ = some (.int .i64 (y : Int)) := by have := (HR.out.cell hil (show 1 < 3 by omega)).1; unfold renV at this; rw [if_neg (by omega), EY.out] at this; exact this
        have c2 : wr.cell? ⟨g, i * 3 + 2, none⟩ = some (.int .i64 (z : Int)) := by have := (HR.out.cell hil (show 2 < 3 by omega)).1; unfold renV at this; rw [if_neg (by omega), EZ.out] at this; exact this
        clear hmem r1 r2 r3 r4 r5 r6 ex ey ez hln
        go_wp2_with fail
        clear c0 c1 c2
        go_loopw [18] (fun s18 wk => ∃ k : Nat, k ≤ 3 ∧ s18 = .int .i64 k ∧ RowT wk g tc ts nums i k ∧ Below w.heap.size w wk ∧ PRow wk m pts nums ever vA (.slice na nums.length nc)) (fun j _ => 3 - (intOf j).toNat)
        case atStart => exact ⟨0, by omega, rfl, HR.out, HB.out, HP.out⟩
        case round =>
          obtain ⟨k, hk, rfl, hR2, hb2, hP2⟩ := hrel
          clear HR HB HP
          have HR2 : Hid (RowT wr g tc ts nums i k) := hR2
          have HB2 : Hid (Below w.heap.size w wr) := hb2
          have HP2 : Hid (PRow wr m pts nums ever vA (.slice na nums.length nc)) := hP2
          have hcs : k = 3 ∨ k = 0 ∨ k = 1 ∨ k = 2 := by omega
          clear hR2 hb2 hP2
          rcases hcs with rfl | rfl | rfl | rfl
          · have HN : Hid (RowT wr g tc ts nums (i + 1) 0) := HR2.out.next
            clear HR2
            go_wp2
            go_roundw
            case rel => exact ⟨i + 1, by omega, by go_num, HN.out, HB2.out, HP2.out⟩
            case measure => simp [intOf]; omega
          · obtain ⟨c0, f0⟩ := HR2.out.cell hil (show 0 < 3 by omega)
            rw [Nat.add_zero] at c0 f0
            have d1 := HP2.out.cells.2.1
            obtain ⟨G, rfl, cN⟩ := NumsAt.of_own HP2.out.ownN x hx
            have p1 : (0 : Int) ≤ (x : Int) := by omega
            have p2 : (x : Int) < (nums.length : Int) := by omega
            have HPU : Hid (∀ q, RowT ((wr.drewN q).setCell ⟨g, i * 3, none⟩ (.int .i64 (nums.getD x 0))) g tc ts nums i (0 + 1) ∧ Below w.heap.size w ((wr.drewN q).setCell ⟨g, i * 3, none⟩ (.int .i64 (nums.getD x 0))) ∧ PRow ((wr.drewN q).setCell ⟨g, i * 3, none⟩ (.int .i64 (nums.getD x 0))) m pts nums ever vA (.slice (some ⟨G, 0, none⟩) nums.length nc)) := fun q => by
              have hput := HR2.out.put hil (show 0 < 3 by omega) hnc q
              rw [EX.out, Int.toNat_natCast] at hput
              obtain ⟨cur, hg, _⟩ := HR2.out.out
              refine ⟨hput, Below.setCell (below_drewN HB2.out) hgb _, HP2.out.keepT ?_ ?_ ?_⟩
              · exact fun k c h => keepsT_set (w := wr.drewN q) hg (by decide) k c h
              · exact fun k c h => keepsT_set (w := wr.drewN q) hg (by decide) k c h
              · exact fun k c h => keepsT_set (w := wr.drewN q) hg (by decide) k c h
            generalize renV ts nums i 0 i 0 = ov at *
            generalize nums.getD x 0 = nv at *
            have hix := idx_tri0 (x : Int) (y : Int) (z : Int)
            clear HR2 HB2 HP2
            go_wp2_with fail
            go_region
            go_wp2
            go_roundw
            case rel => exact ⟨0 + 1, by omega, by go_num, (HPU.out 1).1, (HPU.out 1).2.1, (HPU.out 1).2.2⟩
            case measure => simp [intOf]
          · obtain ⟨c0, f0⟩ := HR2.out.cell hil (show 1 < 3 by omega)
            have d1 := HP2.out.cells.2.1
            obtain ⟨G, rfl, cN⟩ := NumsAt.of_own HP2.out.ownN y hy
            have p1 : (0 : Int) ≤ (y : Int) := by omega
            have p2 : (y : Int) < (nums.length : Int) := by omega
            have HPU : Hid (∀ q, RowT ((wr.drewN q).setCell ⟨g, i * 3 + 1, none⟩ (.int .i64 (nums.getD y 0))) g tc ts nums i (1 + 1) ∧ Below w.heap.size w ((wr.drewN q).setCell ⟨g, i * 3 + 1, none⟩ (.int .i64 (nums.getD y 0))) ∧ PRow ((wr.drewN q).setCell ⟨g, i * 3 + 1, none⟩ (.int .i64 (nums.getD y 0))) m pts nums ever vA (.slice (some ⟨G, 0, none⟩) nums.length nc)) := fun q => by
              have hput := HR2.out.put hil (show 1 < 3 by omega) hnc q
              rw [EY.out, Int.toNat_natCast] at hput
              obtain ⟨cur, hg, _⟩ := HR2.out.out
              refine ⟨hput, Below.setCell (below_drewN HB2.out) hgb _, HP2.out.keepT ?_ ?_ ?_⟩
              · exact fun k c h => keepsT_set (w := wr.drewN q) hg (by decide) k c h
              · exact fun k c h => keepsT_set (w := wr.drewN q) hg (by decide) k c h
              · exact fun k c h => keepsT_set (w := wr.drewN q) hg (by decide) k c h
            generalize renV ts nums i 1 i 1 = ov at *
            generalize nums.getD y 0 = nv at *
            have hix := idx_tri1 (x : Int) (y : Int) (z : Int)
            clear HR2 HB2 HP2
            go_wp2_with fail
            go_region
            go_wp2
            go_roundw
            case rel => exact ⟨1 + 1, by omega, by go_num, (HPU.out 1).1, (HPU.out 1).2.1, (HPU.out 1).2.2⟩
            case measure => simp [intOf]
          · obtain ⟨c0, f0⟩ := HR2.out.cell hil (show 2 < 3 by omega)
            have d1 := HP2.out.cells.2.1
            obtain ⟨G, rfl, cN⟩ := NumsAt.of_own HP2.out.ownN z hz
            have p1 : (0 : Int) ≤ (z : Int) := by omega
            have p2 : (z : Int) < (nums.length : Int) := by omega
            have HPU : Hid (∀ q, RowT ((wr.drewN q).setCell ⟨g, i * 3 + 2, none⟩ (.int .i64 (nums.getD z 0))) g tc ts nums i (2 + 1) ∧ Below w.heap.size w ((wr.drewN q).setCell ⟨g, i * 3 + 2, none⟩ (.int .i64 (nums.getD z 0))) ∧ PRow ((wr.drewN q).setCell ⟨g, i * 3 + 2, none⟩ (.int .i64 (nums.getD z 0))) m pts nums ever vA (.slice (some ⟨G, 0, none⟩) nums.length nc)) := fun q => by
              have hput := HR2.out.put hil (show 2 < 3 by omega) hnc q
              rw [EZ.out, Int.toNat_natCast] at hput
              obtain ⟨cur, hg, _⟩ := HR2.out.out
              refine ⟨hput, Below.setCell (below_drewN HB2.out) hgb _, HP2.out.keepT ?_ ?_ ?_⟩
              · exact fun k c h => keepsT_set (w := wr.drewN q) hg (by decide) k c h
              · exact fun k c h => keepsT_set (w := wr.drewN q) hg (by decide) k c h
              · exact fun k c h => keepsT_set (w := wr.drewN q) hg (by decide) k c h
            generalize renV ts nums i 2 i 2 = ov at *
            generalize nums.getD z 0 = nv at *
            have hix := idx_tri2 (x : Int) (y : Int) (z : Int)
            clear HR2 HB2 HP2
            go_wp2_with fail
            go_region
            go_wp2
            go_roundw
            case rel => exact ⟨2 + 1, by omega, by go_num, (HPU.out 1).1, (HPU.out 1).2.1, (HPU.out 1).2.2⟩
            case measure => simp [intOf]
      · have ei : i = ts.length := by omega
        subst ei
        have HF : Hid (wr.ownsRow w.heap.size 42 3 (.slice (some ⟨g, 0, none⟩) ts.length tc) ts.length (flatT (ts.map (numT nums)))) := HR.out.fin hgb hnc hcm
        clear HR
        go_wp2
        go_ret
        exact ⟨_, ts, rfl, HF.out, HSP.out.1, HSP.out.2, HB.out⟩
end Go.Proofs.Ytgpapegpdfonpaa
