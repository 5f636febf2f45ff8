/-
  The statement's net: a point goes.
-/
import Derived.Test.YtgpapegpdfonpaaLivesAB
namespace Go.Proofs.Ytgpapegpdfonpaa
set_option linter.unusedVariables false
set_option linter.unusedSimpArgs false
open Go.RowKit
attribute [local go_sem ↓] Go.wp_at_zero Go.wp_at_succ

section
variable {w w3 : World} {WB g2 cap2 nk : Nat} {vI vM : Value} {ls : List Value} {ms : List Int} {o : Obj}
theorem grown_atN {v : Value} (hat : (v.ownBlock = some g2 ∧ (w.alloc o).grownBy w3 (some g2)) ∨ (g2 = w.heap.size + 1 ∧ (w.alloc o).grownBy w3 none)) :
    w3.os = w.os ∧ w3.tape = w.tape ∧ w3.output = w.output ∧ w.heap.size ≤ w3.heap.size ∧ ∀ k, k < w.heap.size → some k ≠ v.ownBlock → w3.heap[k]? = w.heap[k]? := by
  have key : ∀ r, (w.alloc o).grownBy w3 r → w3.os = w.os ∧ w3.tape = w.tape ∧ w3.output = w.output ∧ w.heap.size ≤ w3.heap.size ∧ ∀ k, k < w.heap.size → some k ≠ r → w3.heap[k]? = w.heap[k]? := fun r h => by
    have hs := h.size
    simp at hs
    refine ⟨h.os, h.tape, h.output, by omega, fun k hk hr => ?_⟩
    rw [h.block k (by simp; omega) hr, Below.heap_alloc w o k hk]
  rcases hat with ⟨hv, h⟩ | ⟨_, h⟩
  · rw [hv]; exact key _ h
  · obtain ⟨a, b, c, d, e⟩ := key _ h
    exact ⟨a, b, c, d, fun k hk _ => e k hk (by simp)⟩

end
theorem cell_twoN (w : World) (v u : Value) (t : TypeId) : ∀ j x, [v, u][j]? = some x → (w.alloc (.cells #[v, u] t)).cell? ((⟨w.heap.size, 0, none⟩ : Addr).add j) = some x := by
  intro j x hj
  have hadd : (⟨w.heap.size, 0, none⟩ : Addr).add j = ⟨w.heap.size, j, none⟩ := by unfold Addr.add; split <;> simp_all
  rw [hadd]
  have e := heap_alloc_new w (.cells #[v, u] t)
  simp only [World.cell?, e]
  simpa using hj

theorem cell_oneN (w : World) (v : Value) (t : TypeId) : ∀ j x, [v][j]? = some x → (w.alloc (.cells #[v] t)).cell? ((⟨w.heap.size, 0, none⟩ : Addr).add j) = some x := by
  intro j x hj
  have e : j = 0 := by have := (List.getElem?_eq_some_iff.1 hj).1; simp at this; omega
  subst e
  simp at hj
  subst hj
  rw [Addr.add_lit, World.cell?_alloc_at _ _ _ _ (by simp)]; rfl
/-- without the place i, as far as j -/
def lessK {α : Type} (xs : List α) (i j : Nat) : List α := (xs.take j).eraseIdx i
theorem lessK_succ {α : Type} (xs : List α) (i j : Nat) (hj : j < xs.length) : lessK xs i (j + 1) = if j = i then lessK xs i j else lessK xs i j ++ [xs[j]] := by
  unfold lessK
  rw [List.take_succ_eq_append_getElem hj]
  have hl : (xs.take j).length = j := by rw [List.length_take]; omega
  by_cases e : j = i
  · subst e
    rw [if_pos rfl, List.eraseIdx_append_of_length_le (by omega), hl, Nat.sub_self, List.eraseIdx_of_length_le (l := xs.take j) (by omega)]
    simp
  · rw [if_neg e]
    by_cases h : j < i
    · rw [List.eraseIdx_of_length_le (l := xs.take j ++ [xs[j]]) (by rw [List.length_append, hl, List.length_singleton]; omega), List.eraseIdx_of_length_le (l := xs.take j) (by omega)]
    · rw [List.eraseIdx_append_of_lt_length (by omega)]
theorem lessK_len {α : Type} (xs : List α) (i j : Nat) : (lessK xs i j).length ≤ j := by
  unfold lessK
  exact Nat.le_trans (List.length_eraseIdx_le _ _) (by rw [List.length_take]; omega)
theorem lessK_all {α : Type} (xs : List α) (i : Nat) : lessK xs i xs.length = xs.eraseIdx i := by unfold lessK; rw [List.take_length]
theorem cellsP_snocN (l : List Pt) (p : Pt) : cellsP (l ++ [p]) = cellsP l ++ [.int .i64 p.1, .int .i64 p.2] := by rw [cellsP_append]; simp [cellsP]


theorem NMid.below {w w1 w2 : World} {tag tag' : Nat → Nat} {i : Nat} {d d' : ND} {vP vN vA' vM' : Value} (h : NMid w w1 tag tag' i d d' vP vN vA' vM') (hb : Below w1.heap.size w1 w2) : NMid w w2 tag tag' i d d' vP vN vA' vM' :=
  ⟨h.agree, fun k hk => Nat.lt_of_lt_of_le (h.tagged k hk) hb.size, by rw [hb.block _ (lt_some h.blk)]; exact h.blk, ownB_below h.ownP hb, ownB_below h.ownN hb, h.row.below hb, h.ok, h.tA, h.tM, h.chg.trans (Chg.of_below (F := fun _ => False) hb) fun _ _ g => g.elim⟩
/-- Remove on a net, of a number that is there -/
theorem nrem_any (w : World) (tag : Nat → Nat) (i : Nat) (d : ND) (vP vN vA vM : Value) (j : Nat) (H : NAt w tag i d vP vN vA vM) (hT : TagN w tag) (hj : j < d.nums.length) :
    Calls Try.prog 33 #[.pointer (some ⟨d.m, 0, none⟩), .int .i64 (d.nums.getD j 0)] w fun e w' => ∃ vA' vM', e = .returned (.int .i64 0) ∧ NMid w w' tag tag i d ⟨d.X, d.m, d.pts.eraseIdx j, d.nums.eraseIdx j, d.ever⟩ vP vN vA' vM' := by
  refine (mremove_any d.m d.pts d.nums d.ever vA vM _ w H.row H.ok).mono ?_
  rintro e w' ⟨r, rfl, hI⟩
  rcases hI with ⟨h1, h2, hb⟩ | ⟨h1, h2, q, hq, hqn, vA', vM', hP', hc, a1, a2⟩
  · exact absurd (getD_mem hj) h1
  · have e : q = j := inc_inj H.ok.inc hq hj hqn
    subst e
    have hF : ∀ k, k < w.heap.size → chgI d.m vA vM k → tag k = i + 1 := fun k hk hF => by
      rcases hF with rfl | hF | hF
      · exact H.tm
      · exact H.tA k hF
      · exact H.tM k hF
    have far : ∀ k, k < w.heap.size → tag k = i → w'.heap[k]? = w.heap[k]? := fun k hk ht => hc.far k hk fun g => by have := hF k hk g; omega
    exact ⟨vA', vM', by rw [h2], ⟨fun _ _ => rfl, fun k hk => Nat.lt_of_lt_of_le (hT k hk) hc.size, by rw [far d.X H.lt H.tX]; exact H.blk, ownS_keep H.ownP fun g hg => far g (ownS_lt H.ownP hg) (H.tP g hg), ownS_keep H.ownN fun g hg => far g (ownS_lt H.ownN hg) (H.tN g hg), hP', H.ok.less' hq, fun g hg => H.tA g (a1 g hg), fun g hg => H.tM g (a2 g hg), hc.mono hF⟩⟩
theorem gone_num {nums : List Int} (hinc : nums.Pairwise (· < ·)) {j : Nat} (hj : j < nums.length) : nums.getD j 0 ∉ nums.eraseIdx j := fun hm => by
  rw [List.eraseIdx_eq_take_drop_succ] at hm
  rcases List.mem_append.1 hm with h | h
  · obtain ⟨q, hq, e⟩ := List.getElem_of_mem h
    simp at hq
    have hql : q < nums.length := by omega
    have : nums.getD q 0 = nums.getD j 0 := by rw [← e]; simp [hql]
    have := inc_inj hinc hql hj this
    omega
  · obtain ⟨q, hq, e⟩ := List.getElem_of_mem h
    simp at hq
    have : nums.getD (j + 1 + q) 0 = nums.getD j 0 := by rw [← e]; simp [show j + 1 + q < nums.length by omega]
    have := inc_inj hinc (show j + 1 + q < nums.length by omega) hj this
    omega
/-- what a net is behind a point that went -/
def goesD (d : ND) (raw : Int) : ND := if d.pts = [] then d else ⟨d.X, d.m, d.pts.eraseIdx (pk raw d.pts.length).toNat, d.nums.eraseIdx (pk raw d.pts.length).toNat, d.ever⟩

set_option maxRecDepth 100000 in
set_option maxHeartbeats 8000000 in
theorem goes_any (w : World) (tag : Nat → Nat) (iT : Nat) (d : ND) (raw : Int) (H : NetIs w tag iT d) (hT : TagN w tag) (hi0 : iT ≠ 0) (r1 : -9223372036854775808 ≤ raw) (r2 : raw ≤ 9223372036854775807) :
    Calls Try.prog 20 #[.pointer (some ⟨d.X, 0, none⟩), .int .i64 raw] w fun e w' => e = .returned (.bool true) ∧ ∃ tag', NPost w w' tag tag' iT (goesD d raw) := by
  have HNET : Hid (NetIs w tag iT d) := H
  obtain ⟨vP, vN, vA, vM, H⟩ := H
  obtain ⟨iP, hiP, hzP, hsP, hbP⟩ := info_parts infoPt
  obtain ⟨i0, hi0, hz0, hs0, hb0'⟩ := info_parts info3
  have hle := H.ok.le
  have hlen := H.ok.len
  obtain ⟨pa, pc, rfl⟩ := ownS_any H.ownP
  obtain ⟨na, nc, rfl⟩ := ownS_any H.ownN
  have hX0 := H.lt
  obtain ⟨c0, c1, c2, c3, cf⟩ := H.cells
  have HGD : Hid (goesD d raw = if d.pts = [] then d else ⟨d.X, d.m, d.pts.eraseIdx (pk raw d.pts.length).toNat, d.nums.eraseIdx (pk raw d.pts.length).toNat, d.ever⟩) := rfl
  by_cases hp0 : d.pts = []
  · rw [if_pos hp0] at HGD
    have e0 : d.pts.length = 0 := by rw [hp0]; rfl
    rw [e0] at c1
    have HS : Hid (NPost w w tag tag iT d) := NPost.same HNET.out hT (Below.refl _ _)
    clear H hp0 hlen e0
    go_enter Try.func20, Try.ntmps20
    go_wp2
    go_ret
    rw [HGD.out]
    exact ⟨rfl, tag, HS.out⟩
  · rw [if_neg hp0] at HGD
    have hl0 := List.length_pos_iff.2 hp0
    obtain ⟨k0, k1⟩ := pk_bd raw d.pts.length (by omega)
    obtain ⟨i, hi⟩ : ∃ i : Nat, pk raw d.pts.length = (i : Int) := ⟨(pk raw d.pts.length).toNat, by omega⟩
    have HPK := pick_any raw d.pts.length w r1 r2 (by omega) (by omega)
    rw [hi] at HPK k0 k1 HGD
    rw [Int.toNat_natCast] at HGD
    have hil : i < d.nums.length := by omega
    obtain ⟨gN, rfl, cN⟩ := NumsAt.of_own H.ownN i hil
    have HR1 := nrem_any w tag iT d (.slice pa d.pts.length pc) (.slice (some ⟨gN, 0, none⟩) d.nums.length nc) vA vM i H hT hil
    have HGN : Hid (d.nums.getD i 0 ∉ d.nums.eraseIdx i) := gone_num H.ok.inc hil
    have HTG : Hid (tag d.X = iT ∧ (∀ g, (Value.slice pa d.pts.length pc).ownBlock = some g → tag g = iT) ∧ (∀ g, (Value.slice (some ⟨gN, 0, none⟩) d.nums.length nc).ownBlock = some g → tag g = iT) ∧ tag d.m = iT + 1) := ⟨H.tX, H.tP, H.tN, H.tm⟩
    have q0 : ((d.pts.length : Int) == 0) = false := beq_eq_false_iff_ne.2 (by omega)
    have y0 : (0 : Int) ≤ (i : Int) := by omega
    have y1 : (i : Int) < (d.nums.length : Int) := by omega
    have HLE : Hid (d.pts.length = d.nums.length) := hlen
    clear H hi hp0 cf hlen k0 k1 hT hl0
    generalize hnn : d.nums.getD i 0 = nn at *
    clear hnn
    go_enter Try.func20, Try.ntmps20
    go_upto_region 5 with (first | (go_at_call 14; refine HPK.mono ?_; rintro e w0 ⟨rfl, rfl⟩))
    go_upto_region 6 with (first | (go_at_call 33; refine HR1.mono ?_; rintro e w1 ⟨vA1, vM1, rfl, hM1⟩))
    have HM1 : Hid (NMid w0 w1 tag tag iT d ⟨d.X, d.m, d.pts.eraseIdx i, d.nums.eraseIdx i, d.ever⟩ (.slice pa d.pts.length pc) (.slice (some ⟨gN, 0, none⟩) d.nums.length nc) vA1 vM1) := hM1
    have HR2 := mremove_any d.m (d.pts.eraseIdx i) (d.nums.eraseIdx i) d.ever vA1 vM1 nn w1 hM1.row hM1.ok
    have b0 : w1.cell? ⟨d.X, 0, none⟩ = some (.pointer (some ⟨d.m, 0, none⟩)) := by simp [World.cell?, hM1.blk]
    clear hM1 HR1 HPK c0 c1 c2 c3 cN
    go_upto_region 7 with (first | (go_at_call 33; refine HR2.mono ?_; rintro e w2 ⟨r, rfl, hI⟩))
    obtain ⟨rfl, hb2⟩ : r = 4 ∧ Below w1.heap.size w1 w2 := by
      rcases hI with ⟨_, h2, hb⟩ | ⟨h1, _⟩
      · exact ⟨h2, hb⟩
      · exact absurd h1 HGN.out
    have HM2 : Hid (NMid w0 w2 tag tag iT d ⟨d.X, d.m, d.pts.eraseIdx i, d.nums.eraseIdx i, d.ever⟩ (.slice pa d.pts.length pc) (.slice (some ⟨gN, 0, none⟩) d.nums.length nc) vA1 vM1) := HM1.out.below hb2
    obtain ⟨na, hna⟩ : ∃ na : Option Addr, na = some ⟨gN, 0, none⟩ := ⟨_, rfl⟩
    rw [← hna] at HM2 HTG
    have HNAE : Hid (na = some ⟨gN, 0, none⟩) := hna
    have e1 : w2.cell? ⟨d.X, 1, none⟩ = some (.slice pa d.pts.length pc) := by simp [World.cell?, HM2.out.blk]
    have e2 : w2.cell? ⟨d.X, 2, none⟩ = some (.slice na d.nums.length nc) := by simp [World.cell?, HM2.out.blk]
    have hK1 : d.X < w2.heap.size := lt_some HM2.out.blk
    clear hI HR2 b0 HM1 hb2 hna HGN
    go_upto_block 0 with fail
    go_cut [9, 10, 11] (fun s9 s10 _ wx => ∃ a7 c7 a8 c8, s9 = .slice a7 (d.pts.eraseIdx i).length c7 ∧ s10 = .slice a8 (d.nums.eraseIdx i).length c8 ∧ wx.ownsRow w2.heap.size 23 2 s9 (d.pts.eraseIdx i).length (cellsP (d.pts.eraseIdx i)) ∧ wx.ownsRow w2.heap.size 3 1 s10 (d.nums.eraseIdx i).length ((d.nums.eraseIdx i).map (.int .i64)) ∧ Below w2.heap.size w2 wx)
    case first =>
      as_aux_lemma =>
      have HRA : Hid (RawAt w2 pa d.pts) := RowP.raw' HM2.out.ownP
      have HNA : Hid (NumsAt w2 na d.nums) := NumsAt.of_own HM2.out.ownN
      clear HM2
      go_wp2_with fail
      go_loopw [9, 10, 11] (fun s9 s10 s11 wr => ∃ j : Nat, j ≤ d.pts.length ∧ s11 = .int .i64 j ∧ wr.ownsRow w2.heap.size 23 2 s9 (lessK d.pts i j).length (cellsP (lessK d.pts i j)) ∧ wr.ownsRow w2.heap.size 3 1 s10 (lessK d.nums i j).length ((lessK d.nums i j).map (.int .i64)) ∧ Below w2.heap.size w2 wr) (fun _ _ i _ => d.pts.length - (intOf i).toNat)
      case atStart => exact ⟨0, Nat.zero_le _, rfl, World.ownsRow_nil _ _ _ _, World.ownsRow_nil _ _ _ _, Below.refl _ _⟩
      case round =>
        obtain ⟨j, hj, rfl, hoP, hoN, hbr⟩ := hrel
        have hlen := HLE.out
        have f1 := (hbr.cell (p := ⟨d.X, 1, none⟩) hK1).trans e1
        have f2 := (hbr.cell (p := ⟨d.X, 2, none⟩) hK1).trans e2
        have hKr : d.X < wr.heap.size := Nat.lt_of_lt_of_le hK1 hbr.size
        by_cases hjl : j < d.pts.length
        · have y0 : (0 : Int) ≤ (j : Int) := by omega
          have y1 : (j : Int) < (d.pts.length : Int) := by omega
          have y1' : (j : Int) < (d.nums.length : Int) := by omega
          have y2 : IntKind.i64.wrap ((j : Int) + 1) = (j : Int) + 1 := wrap_id (by omega) (by omega)
          have HLP : Hid (lessK d.pts i (j + 1) = if j = i then lessK d.pts i j else lessK d.pts i j ++ [d.pts[j]]) := lessK_succ _ _ _ hjl
          have HLN : Hid (lessK d.nums i (j + 1) = if j = i then lessK d.nums i j else lessK d.nums i j ++ [d.nums[j]]) := lessK_succ _ _ _ (by omega)
          have hcp := lessK_len d.pts i j
          have hcn := lessK_len d.nums i j
          by_cases hji : j = i
          · subst hji
            have HR : Hid (wr.ownsRow w2.heap.size 23 2 u9 (lessK d.pts j (j + 1)).length (cellsP (lessK d.pts j (j + 1))) ∧ wr.ownsRow w2.heap.size 3 1 u10 (lessK d.nums j (j + 1)).length ((lessK d.nums j (j + 1)).map (.int .i64))) := by
              rw [HLP.out, HLN.out, if_pos rfl, if_pos rfl]; exact ⟨hoP, hoN⟩
            have q : ((j : Int) != (j : Int)) = false := by simp
            clear HLP HLN hoP hoN hlen
            go_wp2
            go_roundw
            case rel => exact ⟨j + 1, by omega, by go_num, HR.out.1, HR.out.2, hbr⟩
            case measure => simp [intOf]; omega
          · have q : ((j : Int) != (i : Int)) = true := by simp; omega
            have hra := raw_below HRA.out hbr
            rcases hra with h | ⟨b, off, rfl, hb, hp⟩
            · rw [h] at hjl; simp at hjl
            obtain ⟨x0, x1⟩ := hp j hjl
            obtain ⟨gN, rfl, xn⟩ := (HNA.out.below hbr) j (by omega)
            have eP : d.pts[j] = ((d.pts.getD j (0, 0)).1, (d.pts.getD j (0, 0)).2) := by simp [hjl]
            have eN : d.nums[j]'(by omega) = d.nums.getD j 0 := by simp [show j < d.nums.length by omega]
            have HEP : Hid (lessK d.pts i (j + 1) = lessK d.pts i j ++ [((d.pts.getD j (0, 0)).1, (d.pts.getD j (0, 0)).2)]) := by unfold Hid; rw [HLP.out, if_neg hji, ← eP]
            have HEN : Hid (lessK d.nums i (j + 1) = lessK d.nums i j ++ [d.nums.getD j 0]) := by unfold Hid; rw [HLN.out, if_neg hji, ← eN]
            clear HLP HLN eP eN
            generalize (d.pts.getD j (0, 0)).1 = px at *
            generalize (d.pts.getD j (0, 0)).2 = py at *
            generalize d.nums.getD j 0 = nn at *
            obtain ⟨a7, c7, rfl⟩ := ownS_any hoP
            obtain ⟨a8, c8, rfl⟩ := ownS_any hoN
            have HOP : Hid (wr.ownsRow w2.heap.size 23 2 (.slice a7 (lessK d.pts i j).length c7) (lessK d.pts i j).length (cellsP (lessK d.pts i j))) := hoP
            have HON : Hid (wr.ownsRow w2.heap.size 3 1 (.slice a8 (lessK d.nums i j).length c8) (lessK d.nums i j).length ((lessK d.nums i j).map (.int .i64))) := hoN
            have hsz := hbr.size
            have hn1 := cell_twoN wr (.int .i64 px) (.int .i64 py) 23
            have HN1 : Hid (∀ j x, [Value.int .i64 px, .int .i64 py][j]? = some x → (wr.alloc (.cells #[.int .i64 px, .int .i64 py] 23)).cell? ((⟨wr.heap.size, 0, none⟩ : Addr).add j) = some x) := hn1
            clear hoP hoN hn1 hp hlen
            go_wp2_with (at_builtin; refine wpList_append_where _ (by rfl) (.tmp 56) (.tmp 64) 28 (by rfl) w2.heap.size 23 iP (.agg #[.int .i64 0, .int .i64 0]) 2 16 Try.underlying28 hiP hzP hsP hbP rfl (by decide) _ _ _ (by rfl) (ownB_below HOP.out (below1 _ _)) ⟨wr.heap.size, 0, none⟩ 1 1 [.int .i64 px, .int .i64 py] (by rfl) rfl HN1.out ?c2 (by decide) ?c3 ?c4 ?c5 (wr.heap.size + 1) ?c6 ?_)
            case c2 => intro u hu; simp at hu; rcases hu with rfl | rfl <;> rfl
            case c3 => unfold maxLen; omega
            case c4 => omega
            case c5 => simp; omega
            case c6 => simp
            · intro g2 cap2 w3 hown3 hat3 hlt3
              have hb3 : Below w2.heap.size w2 w3 := by
                have k1 := hbr.trans ((below1 wr (.cells #[.int .i64 px, .int .i64 py] 23)).mono hbr.size)
                rcases hat3 with ⟨hv, hgr⟩ | ⟨hv, hgr⟩
                · exact k1.grown hgr (by simp; omega) fun k hk => by cases hk; exact (hown3.lt _ rfl).1
                · exact k1.grown hgr (by simp; omega) fun k hk => by cases hk
              have hoN3 : w3.ownsRow w2.heap.size 3 1 (.slice a8 (lessK d.nums i j).length c8) (lessK d.nums i j).length ((lessK d.nums i j).map (.int .i64)) := ownS_keep HON.out fun g hg => by
                obtain ⟨cur, hc⟩ := ownS_typ HON.out hg
                refine (grown_atN hat3).2.2.2.2 g (lt_some hc) fun e => ?_
                obtain ⟨cur', hc'⟩ := ownS_typ HOP.out e.symm
                exact typ_ne hc hc' (by decide) rfl
              have HOP3 : Hid (w3.ownsRow w2.heap.size 23 2 (.slice (some ⟨g2, 0, none⟩) ((lessK d.pts i j).length + 1) cap2) ((lessK d.pts i j).length + 1) (cellsP (lessK d.pts i (j + 1)))) := by
                unfold Hid
                rw [HEP.out, cellsP_snocN]; exact hown3
              have HON3 : Hid (w3.ownsRow w2.heap.size 3 1 (.slice a8 (lessK d.nums i j).length c8) (lessK d.nums i j).length ((lessK d.nums i j).map (.int .i64))) := hoN3
              have k2 : w3.cell? ⟨d.X, 2, none⟩ = some (.slice (some ⟨gN, 0, none⟩) d.nums.length nc) := (hb3.cell (p := ⟨d.X, 2, none⟩) hK1).trans e2
              have hgN : gN < w2.heap.size := by
                obtain ⟨g', e', c'⟩ := HNA.out j (by omega)
                cases e'
                exact World.block_lt_of_cell? w2 _ c'
              have kn : w3.cell? ⟨gN, j, none⟩ = some (.int .i64 nn) := by
                rw [hb3.cell (p := ⟨gN, j, none⟩) hgN, ← hbr.cell (p := ⟨gN, j, none⟩) hgN]
                exact xn
              have hsz3 := hb3.size
              have hn3 := cell_oneN w3 (.int .i64 nn) 3
              have HN3 : Hid (∀ j x, [Value.int .i64 nn][j]? = some x → (w3.alloc (.cells #[.int .i64 nn] 3)).cell? ((⟨w3.heap.size, 0, none⟩ : Addr).add j) = some x) := hn3
              have hK3 : d.X < w3.heap.size := Nat.lt_of_lt_of_le hK1 hsz3
              clear hown3 hat3 hoN3 HOP HON HEP hn3 HN1 x0 x1 xn f1 f2
              go_wp2_with (at_builtin; refine wpList_append_where _ (by rfl) (.tmp 66) (.tmp 74) 30 (by rfl) w2.heap.size 3 i0 (.int .i64 0) 1 8 Try.underlying30 hi0 hz0 hs0 hb0' rfl (by decide) _ _ _ (by rfl) (ownB_below HON3.out (below1 _ _)) ⟨w3.heap.size, 0, none⟩ 1 1 [.int .i64 nn] (by rfl) rfl HN3.out ?c2 (by decide) ?c3 ?c4 ?c5 (w3.heap.size + 1) ?c6 ?_)
              case c2 => intro u hu; simp at hu; subst hu; rfl
              case c3 => unfold maxLen; omega
              case c4 => omega
              case c5 => simp; omega
              case c6 => simp
              · intro g4 cap4 w5 hown5 hat5 hlt5
                have hb5 : Below w2.heap.size w2 w5 := by
                  have k1 := hb3.trans ((below1 w3 (.cells #[.int .i64 nn] 3)).mono hb3.size)
                  rcases hat5 with ⟨hv, hgr⟩ | ⟨hv, hgr⟩
                  · exact k1.grown hgr (by simp; omega) fun k hk => by cases hk; exact (hown5.lt _ rfl).1
                  · exact k1.grown hgr (by simp; omega) fun k hk => by cases hk
                have hoP5 : w5.ownsRow w2.heap.size 23 2 (.slice (some ⟨g2, 0, none⟩) ((lessK d.pts i j).length + 1) cap2) ((lessK d.pts i j).length + 1) (cellsP (lessK d.pts i (j + 1))) := ownS_keep HOP3.out fun g hg => by
                  obtain ⟨cur, hc⟩ := ownS_typ HOP3.out hg
                  refine (grown_atN hat5).2.2.2.2 g (lt_some hc) fun e => ?_
                  obtain ⟨cur', hc'⟩ := ownS_typ HON3.out e.symm
                  exact typ_ne hc hc' (by decide) rfl
                have hlp : (lessK d.pts i (j + 1)).length = (lessK d.pts i j).length + 1 := by
                  have := HOP3.out.1
                  rw [cellsP_len] at this
                  omega
                have HR : Hid (w5.ownsRow w2.heap.size 23 2 (.slice (some ⟨g2, 0, none⟩) ((lessK d.pts i j).length + 1) cap2) (lessK d.pts i (j + 1)).length (cellsP (lessK d.pts i (j + 1))) ∧ w5.ownsRow w2.heap.size 3 1 (.slice (some ⟨g4, 0, none⟩) ((lessK d.nums i j).length + 1) cap4) (lessK d.nums i (j + 1)).length ((lessK d.nums i (j + 1)).map (.int .i64)) ∧ Below w2.heap.size w2 w5) := by
                  refine ⟨by rw [hlp]; exact hoP5, ?_, hb5⟩
                  rw [HEN.out, List.length_append, List.map_append]
                  exact hown5
                clear hown5 hat5 hoP5 hlp HOP3 HON3 HEN HN3 k2 kn
                go_wp2
                go_roundw
                case rel => exact ⟨j + 1, by omega, by go_num, HR.out.1, HR.out.2.1, HR.out.2.2⟩
                case measure => simp [intOf]; omega
        · have ej : j = d.pts.length := by omega
          subst ej
          have HR : Hid (wr.ownsRow w2.heap.size 23 2 u9 (d.pts.eraseIdx i).length (cellsP (d.pts.eraseIdx i)) ∧ wr.ownsRow w2.heap.size 3 1 u10 (d.nums.eraseIdx i).length ((d.nums.eraseIdx i).map (.int .i64))) := by
            rw [lessK_all] at hoP
            rw [hlen, lessK_all] at hoN
            exact ⟨hoP, hoN⟩
          clear hoP hoN hlen
          go_wp2
          go_meet
          case rel =>
            obtain ⟨a7, c7, e7⟩ := ownS_any HR.out.1
            obtain ⟨a8, c8, e8⟩ := ownS_any HR.out.2
            exact ⟨a7, c7, a8, c8, e7, e8, HR.out.1, HR.out.2, hbr⟩
    case rest =>
      as_aux_lemma =>
      obtain ⟨a7, c7, a8, c8, rfl, rfl, hoP, hoN, hb5⟩ := hcut
      have q1 := (hb5.cell (p := ⟨d.X, 1, none⟩) hK1).trans e1
      have q2 := (hb5.cell (p := ⟨d.X, 2, none⟩) hK1).trans e2
      have hblk : wc.heap[d.X]? = some (.cells #[.pointer (some ⟨d.m, 0, none⟩), .slice pa d.pts.length pc, .slice na d.nums.length nc, .int .i64 (d.ever : Int)] 49 (0, 0)) := by rw [hb5.block _ hK1]; exact HM2.out.blk
      have f1 : wc.frozen? ⟨d.X, 1, none⟩ = false := by simp [World.frozen?, hblk]
      have f2 : wc.frozen? ⟨d.X, 2, none⟩ = false := by simp [World.frozen?, hblk]
      have s1 := heap_setCell_same wc d.X 1 _ _ (.slice a7 (d.pts.eraseIdx i).length c7) hblk
      have s2 := heap_setCell_same _ d.X 2 _ _ (.slice a8 (d.nums.eraseIdx i).length c8) s1
      have HFIN : Hid (∃ tag', NPost w0 ((wc.setCell ⟨d.X, 1, none⟩ (.slice a7 (d.pts.eraseIdx i).length c7)).setCell ⟨d.X, 2, none⟩ (.slice a8 (d.nums.eraseIdx i).length c8)) tag tag' iT (goesD d raw)) := by
        have kS : ∀ k, k ≠ d.X → ((wc.setCell ⟨d.X, 1, none⟩ (.slice a7 (d.pts.eraseIdx i).length c7)).setCell ⟨d.X, 2, none⟩ (.slice a8 (d.nums.eraseIdx i).length c8)).heap[k]? = wc.heap[k]? := fun k hk => by rw [Below.heap_setCell _ _ _ _ hk, Below.heap_setCell _ _ _ _ hk]
        have fresh : ∀ {v : Value} {T : TypeId} {s n : Nat} {xs : List Value}, wc.ownsRow w2.heap.size T s v n xs → ∀ g, v.ownBlock = some g → w2.heap.size ≤ g := fun {v T s n xs} ho g hg => by
          rcases ho.2 with ⟨e, _⟩ | ⟨g', c', cur', e, hbg, _⟩
          · rw [e] at hg; cases hg
          · rw [e] at hg; cases hg; exact hbg
        obtain ⟨tag3, g1, g2, g3, g4⟩ := net_put (W3 := (wc.setCell ⟨d.X, 1, none⟩ (.slice a7 (d.pts.eraseIdx i).length c7)).setCell ⟨d.X, 2, none⟩ (.slice a8 (d.nums.eraseIdx i).length c8)) (vP' := .slice a7 (d.pts.eraseIdx i).length c7) (vN' := .slice a8 (d.nums.eraseIdx i).length c8) HM2.out
          HTG.out.1 HTG.out.2.1 HTG.out.2.2.1 HTG.out.2.2.2 rfl rfl (by rw [s2]; rfl)
          (ownB_mono (ownS_keep hoP fun g hg => kS g fun e => by have := fresh hoP g hg; omega) (Nat.zero_le _))
          (ownB_mono (ownS_keep hoN fun g hg => kS g fun e => by have := fresh hoN g hg; omega) (Nat.zero_le _))
          (fun g hg => .inr (fresh hoP g hg)) (fun g hg => .inr (fresh hoN g hg))
          ((Chg.of_below hb5).trans ⟨rfl, rfl, rfl, by simp [World.setCell], fun k _ hk => kS k fun e => hk (.inl e)⟩ fun _ _ h => h)
        refine ⟨tag3, fun k hk => g1 k (Nat.lt_of_lt_of_le hk HM2.out.chg.size), g2, by rw [HGD.out]; exact g3, ?_⟩
        exact (HM2.out.chg.mono fun k _ h => (.inr h : tag k = iT ∨ tag k = iT + 1)).trans g4 fun k _ h => .inl h
      clear hblk s1 s2 hoP hoN hb5 HM2
      go_wp2
      go_ret
      exact ⟨rfl, HFIN.out⟩
end Go.Proofs.Ytgpapegpdfonpaa
