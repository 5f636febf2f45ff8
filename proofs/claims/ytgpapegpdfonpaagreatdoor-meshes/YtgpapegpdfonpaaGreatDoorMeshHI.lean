/-
  The statement's part for meshes: Known.removes.
  The statement's part for meshes: Known.inserts.
-/
import Derived.Test.YtgpapegpdfonpaaGreatDoorMeshG
import Derived.Test.YtgpapegpdfonpaaGreatDoorOwnSow
import Derived.Deep.RegionWith
import Derived.Test.YtgpapegpdfonpaaGreatDoorPtsU
set_option linter.unusedVariables false
set_option linter.unusedSimpArgs false
namespace Go.Proofs.YtgpapegpdfonpaaGreatDoor
open Go.RowKit
attribute [local go_sem ↓] Go.wp_at_zero Go.wp_at_succ
theorem kpost_of {MAt : MeshPred} (L : MeshLaw MAt) {w w1 w5 W' : World} {tag tag1 : Nat → Nat} {iK iM : Nat} {d d' : KD} {vP vN vT vP' vN' : Value} (h1 : 4 < iK) (h2 : 4 < iM) (h3 : iK ≠ iM) (hA1 : KAt w1 tag1 iK d vP vN vT) (hM1 : MAt w1 tag1 iM d'.mp d'.s)
  (hag1 : Agree w tag tag1) (hlt1 : Tagged w1 tag1) (hch1 : Chg (fun k => tag k = iM) w w1) (hc5 : Chg (fun k => tag1 k = iK) w1 w5)
  (hoP : w5.ownsRow 0 37 2 vP' d'.s.pts.length (cellsP d'.s.pts)) (hoN : w5.ownsRow 0 3 1 vN' d'.s.nums.length (d'.s.nums.map (.int .i64))) (hoT : w5.ownsRow 0 53 3 vT d.tl.length (flatT d.tl))
  (htP : ∀ g, vP'.ownBlock = some g → tag1 g = iK ∨ w1.heap.size ≤ g) (htN : ∀ g, vN'.ownBlock = some g → tag1 g = iK ∨ w1.heap.size ≤ g)
  (hKb : W'.heap[d.K]? = some (.cells (kCells d' vP' vN' vT) 67 (0, 0))) (hb5 : ∃ cs, w5.heap[d.K]? = some (.cells cs 67 (0, 0))) (hW : Chg (fun k => k = d.K) w5 W') (hsz : W'.heap.size = w5.heap.size)
  (hK : d'.K = d.K) (htold : d'.told = false) (htl : d'.tl = d.tl) (hev : d'.s.ever ≤ d.s.ever + 1) : KPost MAt w W' tag iK iM d := by
 obtain ⟨cs5, hb5⟩ := hb5
 have ne : ∀ {g cs t}, w5.heap[g]? = some (.cells cs t (0, 0)) → t ≠ 67 → g ≠ d.K := fun hg ht => typ_ne hg hb5 ht
 have hlt5 := lt_some hb5
 obtain ⟨tag', ht'⟩ : ∃ tag' : Nat → Nat, ∀ k, tag' k = if some k = vP'.ownBlock ∨ some k = vN'.ownBlock then iK else tag1 k := ⟨fun k => if some k = vP'.ownBlock ∨ some k = vN'.ownBlock then iK else tag1 k, fun _ => rfl⟩
 have old : ∀ k, k < w1.heap.size → tag' k = tag1 k := fun k hk => by
  rw [ht']
  split
  ·rename_i h
   rcases h with h | h
   ·rcases htP k h.symm with h | h
    ·exact h.symm
    ·omega
   ·rcases htN k h.symm with h | h
    ·exact h.symm
    ·omega
  ·rfl
 have keepW : ∀ {base s n e v xs}, w5.ownsRow base e s v n xs → e ≠ 67 → W'.ownsRow base e s v n xs := fun h he => ownS_keep h fun g hg => by
  obtain ⟨cur, hc⟩ := ownS_typ h hg
  exact hW.far g (lt_some hc) (ne hc he)
 refine ⟨tag', d', ⟨⟨vP', vN', vT, ⟨by rw [hK]; exact hKb, by rw [hK, old _ hA1.lt]; exact hA1.tK, keepW hoP (by decide), keepW hoN (by decide), by rw [htl]; exact keepW hoT (by decide), fun g hg => by rw [ht', if_pos (.inl hg.symm)], fun g hg => by rw [ht', if_pos (.inr hg.symm)], fun g hg => ?_, fun h => by rw [htold] at h; cases h⟩⟩, ?_⟩, hK, hev, fun k hk => ?_, fun k hk => ?_, ?_⟩
 ·rw [old g (ownS_lt hA1.ownT hg)]; exact hA1.tT g hg
 ·refine L.frame _ _ _ _ _ _ _ hM1 (by rw [hsz]; exact hc5.size) fun k hk ht => ?_
  have hne : k ≠ d.K := fun e => by rw [e, hA1.tK] at ht; exact h3 ht
  refine ⟨?_, by rw [old k hk]; exact ht⟩
  rw [hW.far k (Nat.lt_of_lt_of_le hk hc5.size) hne, hc5.far k hk (by omega)]
 ·rw [old k (Nat.lt_of_lt_of_le hk hch1.size), hag1 k hk]
 ·rw [ht'] at hk
  rw [hsz]
  split at hk
  ·rename_i h
   rcases h with h | h
   ·exact ownS_lt hoP h.symm
   ·exact ownS_lt hoN h.symm
  ·exact Nat.lt_of_lt_of_le (hlt1 k hk) hc5.size
 ·have c1 : Chg (fun k => tag k = iK ∨ tag k = iM) w w5 := Chg.trans (hch1.mono fun k _ h => .inr h) hc5 fun k hk h => .inl (by rw [← hag1 k hk]; exact h)
  exact Chg.trans c1 hW fun k hk h => .inl (by rw [← hag1 k hk, h]; exact hA1.tK)
def lessJ {α : Type} (xs : List α) (i j : Nat) : List α := (xs.take j).eraseIdx i
theorem lessJ_succ {α : Type} (xs : List α) (i j : Nat) (hj : j < xs.length) : lessJ xs i (j + 1) = if j = i then lessJ xs i j else lessJ xs i j ++ [xs[j]] := by
 unfold lessJ
 rw [List.take_succ_eq_append_getElem hj]
 have hl : (xs.take j).length = j := by rw [List.length_take]; omega
 by_cases e : j = i
 ·subst e
  rw [if_pos rfl, List.eraseIdx_append_of_length_le (by omega), hl, Nat.sub_self, List.eraseIdx_of_length_le (l := xs.take j) (by omega)]
  simp
 ·rw [if_neg e]
  by_cases h : j < i
  ·rw [List.eraseIdx_of_length_le (l := xs.take j ++ [xs[j]]) (by rw [List.length_append, hl, List.length_singleton]; omega), List.eraseIdx_of_length_le (l := xs.take j) (by omega)]
  ·rw [List.eraseIdx_append_of_lt_length (by omega)]
theorem lessJ_len {α : Type} (xs : List α) (i j : Nat) : (lessJ xs i j).length ≤ j := by
 unfold lessJ
 exact Nat.le_trans (List.length_eraseIdx_le _ _) (by rw [List.length_take]; omega)
theorem lessJ_all {α : Type} (xs : List α) (i : Nat) : lessJ xs i xs.length = xs.eraseIdx i := by unfold lessJ; rw [List.take_length]
theorem cellsP_snoc (l : List Pt) (p : Pt) : cellsP (l ++ [p]) = cellsP l ++ [.int .i64 p.1, .int .i64 p.2] := by rw [cellsP_append]; simp [cellsP]
set_option maxRecDepth 100000 in
set_option maxHeartbeats 8000000 in
theorem removes_any {MAt : MeshPred} (L : MeshLaw MAt) (iK iM : Nat) (tag : Nat → Nat) (d : KD) (n : Int) (w : World) (hK : KM MAt w tag iK iM d) (hlt : Tagged w tag) (h1 : 4 < iK) (h2 : 4 < iM) (h3 : iK ≠ iM) :
  Calls Tryz.prog 59 #[.pointer (some ⟨d.K, 0, none⟩), .int .i64 n] w fun e w' => e = .returned (.bool true) ∧ KPost MAt w w' tag iK iM d := by
 obtain ⟨⟨vP, vN, vT, hA⟩, hM⟩ := hK
 have OK : Hid d.s.Ok := L.ok _ _ _ _ _ hM
 have HT := L.remove w tag iM d.mp d.s n (by omega) hM hlt
 have HA : Hid (KAt w tag iK d vP vN vT) := hA
 have hKl := hA.lt
 have c0 := hA.cells.1
 obtain ⟨iP, hiP, hzP, hsP, hbP⟩ := info_parts infoPt
 obtain ⟨i0, hi0, hz0, hs0, hb0⟩ := info_parts info3
 clear hA hM
 go_enter Tryz.func59, Tryz.ntmps59
 go_upto_region 2 with (go_at_call 98; refine HT.mono ?_; rintro e w1 ⟨r, s', rfl, hrem, tag1, hag1, hlt1, hM1, hch1, hv1⟩)
 have hA1 := HA.out.keep (w' := w1) (tag' := tag1) fun k hk ht => ⟨hch1.far k hk (by omega), (hag1 k hk).trans ht⟩
 obtain ⟨pa, pc, rfl⟩ := ownS_any hA1.ownP
 obtain ⟨na, nc, rfl⟩ := ownS_any hA1.ownN
 obtain ⟨_, e1, e2, e3, e4, e5, ef⟩ := hA1.cells
 have hlen := OK.out.len
 have hle := OK.out.le
 have PL := place_any d.K na nc d.s.nums n w1 (by omega) e2 (NumsAt.of_own hA1.ownN)
 have H1 : Hid (KAt w1 tag1 iK d (.slice pa d.s.pts.length pc) (.slice na d.s.nums.length nc) vT ∧ MAt w1 tag1 iM d.mp s' ∧ Agree w tag tag1 ∧ Chg (fun k => tag k = iM) w w1 ∧ Tagged w1 tag1) := ⟨hA1, hM1, hag1, hch1, hlt1⟩
 have HREM : Hid (RemR d.s n r s') := hrem
 have hK1 : d.K < w1.heap.size := hA1.lt
 clear HT hA1 hM1 hag1 hch1 hlt1 hv1 HA hrem c0
 go_upto_region 3 with (go_at_call 99; refine PL.mono ?_; rintro e w2 ⟨rfl, rfl⟩)
 clear PL
 by_cases hmem : n ∈ d.s.nums
 ·obtain ⟨p0, p1⟩ := placeN_mem hmem
  have hrs : r = 0 ∧ s'.pts = d.s.pts.eraseIdx (placeN d.s.nums n).toNat ∧ s'.nums = d.s.nums.eraseIdx (placeN d.s.nums n).toNat ∧ s'.ever = d.s.ever := by
   rcases HREM.out with ⟨h, _⟩ | ⟨_, h⟩
   ·exact absurd hmem h
   ·exact h
  obtain ⟨rfl, hsp, hsn, hse⟩ := hrs
  obtain ⟨i, hi⟩ : ∃ i : Nat, placeN d.s.nums n = (i : Int) := ⟨(placeN d.s.nums n).toNat, by omega⟩
  rw [hi, Int.toNat_natCast] at hsp hsn
  rw [hi] at p0 p1 ⊢
  have HS : Hid (s'.pts = d.s.pts.eraseIdx i ∧ s'.nums = d.s.nums.eraseIdx i ∧ s'.ever = d.s.ever) := ⟨hsp, hsn, hse⟩
  have hil : i < d.s.nums.length := by omega
  have d0 : decide ((i : Int) < 0) = false := decide_eq_false (by omega)
  have d0' : ¬ ((i : Int) < 0) := by omega
  clear HREM hsp hsn hse hmem hi p0 p1
  go_upto_block 0 with fail
  go_cut [7, 8, 9] (fun s7 s8 _ wx => ∃ a7 c7 a8 c8, s7 = .slice a7 (d.s.pts.eraseIdx i).length c7 ∧ s8 = .slice a8 (d.s.nums.eraseIdx i).length c8 ∧ wx.ownsRow w2.heap.size 37 2 s7 (d.s.pts.eraseIdx i).length (cellsP (d.s.pts.eraseIdx i)) ∧ wx.ownsRow w2.heap.size 3 1 s8 (d.s.nums.eraseIdx i).length ((d.s.nums.eraseIdx i).map (.int .i64)) ∧ Below w2.heap.size w2 wx)
  case first =>
   as_aux_lemma =>
   have HRA : Hid (RawAt w2 pa d.s.pts) := RowP.raw' H1.out.1.ownP
   have HNA : Hid (NumsAt w2 na d.s.nums) := NumsAt.of_own H1.out.1.ownN
   clear H1 HS
   go_wp2_with fail
   go_loopw [7, 8, 9] (fun s7 s8 s9 wr => ∃ j : Nat, j ≤ d.s.pts.length ∧ s9 = .int .i64 j ∧ wr.ownsRow w2.heap.size 37 2 s7 (lessJ d.s.pts i j).length (cellsP (lessJ d.s.pts i j)) ∧ wr.ownsRow w2.heap.size 3 1 s8 (lessJ d.s.nums i j).length ((lessJ d.s.nums i j).map (.int .i64)) ∧ Below w2.heap.size w2 wr) (fun _ _ i _ => d.s.pts.length - (intOf i).toNat)
   case atStart => exact ⟨0, Nat.zero_le _, rfl, World.ownsRow_nil _ _ _ _, World.ownsRow_nil _ _ _ _, Below.refl _ _⟩
   case round =>
    obtain ⟨j, hj, rfl, hoP, hoN, hbr⟩ := hrel
    have f1 := (hbr.cell (p := ⟨d.K, 1, none⟩) hK1).trans e1
    have f2 := (hbr.cell (p := ⟨d.K, 2, none⟩) hK1).trans e2
    have hKr : d.K < wr.heap.size := Nat.lt_of_lt_of_le hK1 hbr.size
    by_cases hjl : j < d.s.pts.length
    ·have y0 : (0 : Int) ≤ (j : Int) := by omega
     have y1 : (j : Int) < (d.s.pts.length : Int) := by omega
     have y1' : (j : Int) < (d.s.nums.length : Int) := by omega
     have y2 : IntKind.i64.wrap ((j : Int) + 1) = (j : Int) + 1 := wrap_id (by omega) (by omega)
     have HLP : Hid (lessJ d.s.pts i (j + 1) = if j = i then lessJ d.s.pts i j else lessJ d.s.pts i j ++ [d.s.pts[j]]) := lessJ_succ _ _ _ hjl
     have HLN : Hid (lessJ d.s.nums i (j + 1) = if j = i then lessJ d.s.nums i j else lessJ d.s.nums i j ++ [d.s.nums[j]]) := lessJ_succ _ _ _ (by omega)
     have hcp := lessJ_len d.s.pts i j
     have hcn := lessJ_len d.s.nums i j
     by_cases hji : j = i
     ·subst hji
      have HR : Hid (wr.ownsRow w2.heap.size 37 2 u7 (lessJ d.s.pts j (j + 1)).length (cellsP (lessJ d.s.pts j (j + 1))) ∧ wr.ownsRow w2.heap.size 3 1 u8 (lessJ d.s.nums j (j + 1)).length ((lessJ d.s.nums j (j + 1)).map (.int .i64))) := by
       rw [HLP.out, HLN.out, if_pos rfl, if_pos rfl]; exact ⟨hoP, hoN⟩
      have q : ((j : Int) != (j : Int)) = false := by simp
      clear HLP HLN hoP hoN
      go_wp2
      go_roundw
      case rel => exact ⟨j + 1, by omega, by go_num, HR.out.1, HR.out.2, hbr⟩
      case measure => simp [intOf]; omega
     ·have q : ((j : Int) != (i : Int)) = true := by simp; omega
      have hra := HRA.out.below hbr
      rcases hra with h | ⟨b, off, rfl, hb, hp⟩
      ·rw [h] at hjl; simp at hjl
      obtain ⟨x0, x1⟩ := hp j hjl
      obtain ⟨gN, rfl, xn⟩ := (HNA.out.below hbr) j (by omega)
      have eP : d.s.pts[j] = ((d.s.pts.getD j (0, 0)).1, (d.s.pts.getD j (0, 0)).2) := by simp [hjl]
      have eN : d.s.nums[j]'(by omega) = d.s.nums.getD j 0 := by simp [show j < d.s.nums.length by omega]
      have HEP : Hid (lessJ d.s.pts i (j + 1) = lessJ d.s.pts i j ++ [((d.s.pts.getD j (0, 0)).1, (d.s.pts.getD j (0, 0)).2)]) := by unfold Hid; rw [HLP.out, if_neg hji, ← eP]
      have HEN : Hid (lessJ d.s.nums i (j + 1) = lessJ d.s.nums i j ++ [d.s.nums.getD j 0]) := by unfold Hid; rw [HLN.out, if_neg hji, ← eN]
      clear HLP HLN eP eN
      generalize (d.s.pts.getD j (0, 0)).1 = px at *
      generalize (d.s.pts.getD j (0, 0)).2 = py at *
      generalize d.s.nums.getD j 0 = nn at *
      obtain ⟨a7, c7, rfl⟩ := ownS_any hoP
      obtain ⟨a8, c8, rfl⟩ := ownS_any hoN
      have HOP : Hid (wr.ownsRow w2.heap.size 37 2 (.slice a7 (lessJ d.s.pts i j).length c7) (lessJ d.s.pts i j).length (cellsP (lessJ d.s.pts i j))) := hoP
      have HON : Hid (wr.ownsRow w2.heap.size 3 1 (.slice a8 (lessJ d.s.nums i j).length c8) (lessJ d.s.nums i j).length ((lessJ d.s.nums i j).map (.int .i64))) := hoN
      have hsz := hbr.size
      have hn1 := cell_newT wr (.int .i64 px) (.int .i64 py) 37
      have HN1 : Hid (∀ j x, [Value.int .i64 px, .int .i64 py][j]? = some x → (wr.alloc (.cells #[.int .i64 px, .int .i64 py] 37)).cell? ((⟨wr.heap.size, 0, none⟩ : Addr).add j) = some x) := hn1
      clear hoP hoN hn1 hp
      go_wp2_with (at_builtin; refine wpList_append_where _ (by rfl) (.tmp 36) (.tmp 44) 41 (by rfl) w2.heap.size 37 iP (.agg #[.int .i64 0, .int .i64 0]) 2 16 Tryz.underlying41 hiP hzP hsP hbP rfl (by decide) _ _ _ (by rfl) (ownB_below HOP.out (below1 _ _)) ⟨wr.heap.size, 0, none⟩ 1 1 [.int .i64 px, .int .i64 py] (by rfl) rfl HN1.out ?c2 (by decide) ?c3 ?c4 ?c5 (wr.heap.size + 1) ?c6 ?_)
      case c2 => intro u hu; simp at hu; rcases hu with rfl | rfl <;> rfl
      case c3 => unfold maxLen; omega
      case c4 => omega
      case c5 => simp; omega
      case c6 => simp
      ·intro g2 cap2 w3 hown3 hat3 hlt3
       have hb3 : Below w2.heap.size w2 w3 := by
        have k1 := hbr.trans ((below1 wr (.cells #[.int .i64 px, .int .i64 py] 37)).mono hbr.size)
        rcases hat3 with ⟨hv, hgr⟩ | ⟨hv, hgr⟩
        ·exact k1.grown hgr (by simp; omega) fun k hk => by cases hk; exact (hown3.lt _ rfl).1
        ·exact k1.grown hgr (by simp; omega) fun k hk => by cases hk
       have hoN3 : w3.ownsRow w2.heap.size 3 1 (.slice a8 (lessJ d.s.nums i j).length c8) (lessJ d.s.nums i j).length ((lessJ d.s.nums i j).map (.int .i64)) := ownS_keep HON.out fun g hg => by
        obtain ⟨cur, hc⟩ := ownS_typ HON.out hg
        refine (grown_at hat3).2.2.2.2 g (lt_some hc) fun e => ?_
        obtain ⟨cur', hc'⟩ := ownS_typ HOP.out e.symm
        exact typ_ne hc hc' (by decide) rfl
       have HOP3 : Hid (w3.ownsRow w2.heap.size 37 2 (.slice (some ⟨g2, 0, none⟩) ((lessJ d.s.pts i j).length + 1) cap2) ((lessJ d.s.pts i j).length + 1) (cellsP (lessJ d.s.pts i (j + 1)))) := by
        unfold Hid
        rw [HEP.out, cellsP_snoc]; exact hown3
       have HON3 : Hid (w3.ownsRow w2.heap.size 3 1 (.slice a8 (lessJ d.s.nums i j).length c8) (lessJ d.s.nums i j).length ((lessJ d.s.nums i j).map (.int .i64))) := hoN3
       have k2 : w3.cell? ⟨d.K, 2, none⟩ = some (.slice (some ⟨gN, 0, none⟩) d.s.nums.length nc) := (hb3.cell (p := ⟨d.K, 2, none⟩) hK1).trans e2
       have hgN : gN < w2.heap.size := by
        obtain ⟨g', e', c'⟩ := HNA.out j (by omega)
        cases e'
        exact World.block_lt_of_cell? w2 _ c'
       have kn : w3.cell? ⟨gN, j, none⟩ = some (.int .i64 nn) := by
        rw [hb3.cell (p := ⟨gN, j, none⟩) hgN, ← hbr.cell (p := ⟨gN, j, none⟩) hgN]
        exact xn
       have hsz3 := hb3.size
       have hn3 := cell_one_new w3 (.int .i64 nn) 3
       have HN3 : Hid (∀ j x, [Value.int .i64 nn][j]? = some x → (w3.alloc (.cells #[.int .i64 nn] 3)).cell? ((⟨w3.heap.size, 0, none⟩ : Addr).add j) = some x) := hn3
       have hK3 : d.K < w3.heap.size := Nat.lt_of_lt_of_le hK1 hsz3
       clear hown3 hat3 hoN3 HOP HON HEP hn3 HN1 x0 x1 xn f1 f2
       go_wp2_with (at_builtin; refine wpList_append_where _ (by rfl) (.tmp 46) (.tmp 54) 26 (by rfl) w2.heap.size 3 i0 (.int .i64 0) 1 8 Tryz.underlying26 hi0 hz0 hs0 hb0 rfl (by decide) _ _ _ (by rfl) (ownB_below HON3.out (below1 _ _)) ⟨w3.heap.size, 0, none⟩ 1 1 [.int .i64 nn] (by rfl) rfl HN3.out ?c2 (by decide) ?c3 ?c4 ?c5 (w3.heap.size + 1) ?c6 ?_)
       case c2 => intro u hu; simp at hu; subst hu; rfl
       case c3 => unfold maxLen; omega
       case c4 => omega
       case c5 => simp; omega
       case c6 => simp
       ·intro g4 cap4 w5 hown5 hat5 hlt5
        have hb5 : Below w2.heap.size w2 w5 := by
         have k1 := hb3.trans ((below1 w3 (.cells #[.int .i64 nn] 3)).mono hb3.size)
         rcases hat5 with ⟨hv, hgr⟩ | ⟨hv, hgr⟩
         ·exact k1.grown hgr (by simp; omega) fun k hk => by cases hk; exact (hown5.lt _ rfl).1
         ·exact k1.grown hgr (by simp; omega) fun k hk => by cases hk
        have hoP5 : w5.ownsRow w2.heap.size 37 2 (.slice (some ⟨g2, 0, none⟩) ((lessJ d.s.pts i j).length + 1) cap2) ((lessJ d.s.pts i j).length + 1) (cellsP (lessJ d.s.pts i (j + 1))) := ownS_keep HOP3.out fun g hg => by
         obtain ⟨cur, hc⟩ := ownS_typ HOP3.out hg
         refine (grown_at hat5).2.2.2.2 g (lt_some hc) fun e => ?_
         obtain ⟨cur', hc'⟩ := ownS_typ HON3.out e.symm
         exact typ_ne hc hc' (by decide) rfl
        have hlp : (lessJ d.s.pts i (j + 1)).length = (lessJ d.s.pts i j).length + 1 := by
         have := HOP3.out.1
         rw [cellsP_len] at this
         omega
        have HR : Hid (w5.ownsRow w2.heap.size 37 2 (.slice (some ⟨g2, 0, none⟩) ((lessJ d.s.pts i j).length + 1) cap2) (lessJ d.s.pts i (j + 1)).length (cellsP (lessJ d.s.pts i (j + 1))) ∧ w5.ownsRow w2.heap.size 3 1 (.slice (some ⟨g4, 0, none⟩) ((lessJ d.s.nums i j).length + 1) cap4) (lessJ d.s.nums i (j + 1)).length ((lessJ d.s.nums i (j + 1)).map (.int .i64)) ∧ Below w2.heap.size w2 w5) := by
         refine ⟨by rw [hlp]; exact hoP5, ?_, hb5⟩
         rw [HEN.out, List.length_append, List.map_append]
         exact hown5
        clear hown5 hat5 hoP5 hlp HOP3 HON3 HEN HN3 k2 kn
        go_wp2
        go_roundw
        case rel => exact ⟨j + 1, by omega, by go_num, HR.out.1, HR.out.2.1, HR.out.2.2⟩
        case measure => simp [intOf]; omega
    ·have ej : j = d.s.pts.length := by omega
     subst ej
     have HR : Hid (wr.ownsRow w2.heap.size 37 2 u7 (d.s.pts.eraseIdx i).length (cellsP (d.s.pts.eraseIdx i)) ∧ wr.ownsRow w2.heap.size 3 1 u8 (d.s.nums.eraseIdx i).length ((d.s.nums.eraseIdx i).map (.int .i64))) := by
      rw [lessJ_all] at hoP
      rw [hlen, lessJ_all] at hoN
      exact ⟨hoP, hoN⟩
     clear hoP hoN
     go_wp2
     go_meet
     case rel =>
      obtain ⟨a7, c7, e7⟩ := ownS_any HR.out.1
      obtain ⟨a8, c8, e8⟩ := ownS_any HR.out.2
      exact ⟨a7, c7, a8, c8, e7, e8, HR.out.1, HR.out.2, hbr⟩
  case rest =>
   as_aux_lemma =>
   obtain ⟨a7, c7, a8, c8, rfl, rfl, hoP, hoN, hb5⟩ := hcut
   have hBel : Chg (fun k => tag1 k = iK) w2 wc := Chg.of_below hb5
   have q1 := (hb5.cell (p := ⟨d.K, 1, none⟩) hK1).trans e1
   have q2 := (hb5.cell (p := ⟨d.K, 2, none⟩) hK1).trans e2
   have q4 := (hb5.cell (p := ⟨d.K, 4, none⟩) hK1).trans e4
   have r1 : wc.frozen? ⟨d.K, 1, none⟩ = false := (hb5.frozen (p := ⟨d.K, 1, none⟩) hK1).trans (ef 1)
   have r2 : wc.frozen? ⟨d.K, 2, none⟩ = false := (hb5.frozen (p := ⟨d.K, 2, none⟩) hK1).trans (ef 2)
   have r4 : wc.frozen? ⟨d.K, 4, none⟩ = false := (hb5.frozen (p := ⟨d.K, 4, none⟩) hK1).trans (ef 4)
   have hK5 : d.K < wc.heap.size := Nat.lt_of_lt_of_le hK1 hb5.size
   have hblk : wc.heap[d.K]? = some (.cells (kCells d (.slice pa d.s.pts.length pc) (.slice na d.s.nums.length nc) vT) 67 (0, 0)) := by rw [hb5.block _ hK1]; exact H1.out.1.blk
   have s1 := heap_setCell_same wc d.K 1 _ _ (.slice a7 (d.s.pts.eraseIdx i).length c7) hblk
   have s2 := heap_setCell_same _ d.K 2 _ _ (.slice a8 (d.s.nums.eraseIdx i).length c8) s1
   have s4 := heap_setCell_same _ d.K 4 _ _ (.bool false) s2
   have HFIN : Hid (KPost MAt w (((wc.setCell ⟨d.K, 1, none⟩ (.slice a7 (d.s.pts.eraseIdx i).length c7)).setCell ⟨d.K, 2, none⟩ (.slice a8 (d.s.nums.eraseIdx i).length c8)).setCell ⟨d.K, 4, none⟩ (.bool false)) tag iK iM d) := by
    obtain ⟨hA1, hM1, hag1, hch1, hlt1⟩ := H1.out
    obtain ⟨t1, t2, t3⟩ := HS.out
    refine kpost_of L (d' := ⟨d.K, d.mp, s', false, d.tl⟩) (vP' := .slice a7 (d.s.pts.eraseIdx i).length c7) (vN' := .slice a8 (d.s.nums.eraseIdx i).length c8) (w5 := wc) h1 h2 h3 hA1 hM1 hag1 hlt1 hch1 hBel ?_ ?_ (ownB_below hA1.ownT hb5) (fun g hg => .inr (hoP.lt g hg).1) (fun g hg => .inr (hoN.lt g hg).1) ?_ ⟨_, hblk⟩ ?_ (by simp) rfl rfl rfl (by rw [t3]; omega)
    ·rw [t1]; exact ownB_mono hoP (Nat.zero_le _)
    ·rw [t2]; exact ownB_mono hoN (Nat.zero_le _)
    ·rw [s4]; unfold kCells; rw [t3]; rfl
    ·exact ⟨rfl, rfl, rfl, by simp, fun k _ hk => by rw [Below.heap_setCell _ _ _ _ hk, Below.heap_setCell _ _ _ _ hk, Below.heap_setCell _ _ _ _ hk]⟩
   clear hBel hblk s1 s2 s4 hoP hoN hb5 H1 HS
   go_wp2
   go_ret
   exact ⟨rfl, HFIN.out⟩
 ·have hp := placeN_none hmem
  rw [hp]
  have hrs : r = 4 ∧ s' = d.s := by
   rcases HREM.out with ⟨_, h⟩ | ⟨h, _⟩
   ·exact h
   ·exact absurd h hmem
  obtain ⟨rfl, rfl⟩ := hrs
  have HFIN : Hid (KPost MAt w w2 tag iK iM d) := by
   obtain ⟨hA1, hM1, hag1, hch1, hlt1⟩ := H1.out
   exact ⟨tag1, d, ⟨⟨_, _, _, hA1⟩, hM1⟩, rfl, by omega, hag1, hlt1, hch1.mono fun k _ h => .inr h⟩
  clear hp hmem HREM H1
  go_wp2_with (go_at_call 39; refine (num_any _ _).mono ?_; rintro e w7 ⟨rfl, rfl⟩)
  go_ret
  exact ⟨rfl, HFIN.out⟩
end Go.Proofs.YtgpapegpdfonpaaGreatDoor

namespace Go.Proofs.YtgpapegpdfonpaaGreatDoor
open Go.RowKit
attribute [local go_sem ↓] Go.wp_at_zero Go.wp_at_succ
structure KRow (w : World) (K mp : Nat) (pts : List Pt) (nums : List Int) (ever : Int) (told : Bool) (tl : List T3) (vP vN vT : Value) : Prop where
 blk : w.heap[K]? = some (.cells #[.pointer (some ⟨mp, 0, none⟩), vP, vN, .int .i64 ever, .bool told, vT] 67 (0, 0))
 ownP : w.ownsRow 0 37 2 vP pts.length (cellsP pts)
 ownN : w.ownsRow 0 3 1 vN nums.length (nums.map (.int .i64))
 ownT : w.ownsRow 0 53 3 vT tl.length (flatT tl)
section
variable {w w' w3 : World} {K mp g2 cap2 : Nat} {pts : List Pt} {nums : List Int} {ever : Int} {told : Bool} {tl : List T3} {vP vN vT : Value} {o : Obj}
theorem KRow.cells (h : KRow w K mp pts nums ever told tl vP vN vT) : w.cell? ⟨K, 0, none⟩ = some (.pointer (some ⟨mp, 0, none⟩)) ∧ w.cell? ⟨K, 1, none⟩ = some vP ∧ w.cell? ⟨K, 2, none⟩ = some vN ∧ w.cell? ⟨K, 3, none⟩ = some (.int .i64 ever) ∧ w.cell? ⟨K, 4, none⟩ = some (.bool told) ∧ ∀ j, w.frozen? ⟨K, j, none⟩ = false := by
 have hb := h.blk
 simp [World.cell?, World.frozen?, hb]
theorem KRow.putP (h : KRow w K mp pts nums ever told tl vP vN vT) {p : Pt} (hown : w3.ownsRow 0 37 2 (.slice (some ⟨g2, 0, none⟩) (pts.length + 1) cap2) (pts.length + 1) (cellsP pts ++ [.int .i64 p.1, .int .i64 p.2]))
  (hat : (vP.ownBlock = some g2 ∧ (w.alloc o).grownBy w3 (some g2)) ∨ (g2 = w.heap.size + 1 ∧ (w.alloc o).grownBy w3 none)) :
  KRow (w3.setCell ⟨K, 1, none⟩ (.slice (some ⟨g2, 0, none⟩) (pts.length + 1) cap2)) K mp (pts ++ [p]) nums ever told tl (.slice (some ⟨g2, 0, none⟩) (pts.length + 1) cap2) vN vT ∧
  ∀ k, k < w.heap.size → k ≠ K → some k ≠ vP.ownBlock → (w3.setCell ⟨K, 1, none⟩ (.slice (some ⟨g2, 0, none⟩) (pts.length + 1) cap2)).heap[k]? = w.heap[k]? := by
 obtain ⟨_, _, _, e4, e5⟩ := grown_at hat
 have neP : ∀ {k cs t}, w.heap[k]? = some (.cells cs t (0, 0)) → t ≠ 37 → some k ≠ vP.ownBlock := fun hk ht e => by
  obtain ⟨cur, hc⟩ := ownS_typ h.ownP e.symm
  exact typ_ne hk hc ht rfl
 have hb3 : w3.heap[K]? = some (.cells #[.pointer (some ⟨mp, 0, none⟩), vP, vN, .int .i64 ever, .bool told, vT] 67 (0, 0)) := by rw [e5 K (lt_some h.blk) (neP h.blk (by decide))]; exact h.blk
 have s1 := heap_setCell_same w3 K 1 _ _ (.slice (some ⟨g2, 0, none⟩) (pts.length + 1) cap2) hb3
 have far : ∀ k, k < w.heap.size → k ≠ K → some k ≠ vP.ownBlock → (w3.setCell ⟨K, 1, none⟩ (.slice (some ⟨g2, 0, none⟩) (pts.length + 1) cap2)).heap[k]? = w.heap[k]? := fun k hk h1 h2 => by rw [Below.heap_setCell _ _ _ _ h1]; exact e5 k hk h2
 have ne : ∀ {k cs t}, w.heap[k]? = some (.cells cs t (0, 0)) → t ≠ 67 → k ≠ K := fun hk ht => typ_ne hk h.blk ht
 refine ⟨⟨by rw [s1]; rfl, ?_, ownS_keep h.ownN fun g hg => ?_, ownS_keep h.ownT fun g hg => ?_⟩, far⟩
 ·obtain ⟨cur, hc⟩ := ownS_typ hown (g := g2) rfl
  have := ownS_keep (w' := w3.setCell ⟨K, 1, none⟩ (.slice (some ⟨g2, 0, none⟩) (pts.length + 1) cap2)) hown fun g hg => by
   cases hg
   exact Below.heap_setCell _ _ _ _ (typ_ne hc hb3 (by decide))
  rw [List.length_append, cellsP_snoc]
  exact this
 ·obtain ⟨cur, hc⟩ := ownS_typ h.ownN hg
  exact far g (lt_some hc) (ne hc (by decide)) (neP hc (by decide))
 ·obtain ⟨cur, hc⟩ := ownS_typ h.ownT hg
  exact far g (lt_some hc) (ne hc (by decide)) (neP hc (by decide))
theorem KRow.putN (h : KRow w K mp pts nums ever told tl vP vN vT) {m : Int} (hown : w3.ownsRow 0 3 1 (.slice (some ⟨g2, 0, none⟩) (nums.length + 1) cap2) (nums.length + 1) (nums.map (.int .i64) ++ [.int .i64 m]))
  (hat : (vN.ownBlock = some g2 ∧ (w.alloc o).grownBy w3 (some g2)) ∨ (g2 = w.heap.size + 1 ∧ (w.alloc o).grownBy w3 none)) :
  KRow (w3.setCell ⟨K, 2, none⟩ (.slice (some ⟨g2, 0, none⟩) (nums.length + 1) cap2)) K mp pts (nums ++ [m]) ever told tl vP (.slice (some ⟨g2, 0, none⟩) (nums.length + 1) cap2) vT ∧
  ∀ k, k < w.heap.size → k ≠ K → some k ≠ vN.ownBlock → (w3.setCell ⟨K, 2, none⟩ (.slice (some ⟨g2, 0, none⟩) (nums.length + 1) cap2)).heap[k]? = w.heap[k]? := by
 obtain ⟨_, _, _, e4, e5⟩ := grown_at hat
 have neP : ∀ {k cs t}, w.heap[k]? = some (.cells cs t (0, 0)) → t ≠ 3 → some k ≠ vN.ownBlock := fun hk ht e => by
  obtain ⟨cur, hc⟩ := ownS_typ h.ownN e.symm
  exact typ_ne hk hc ht rfl
 have hb3 : w3.heap[K]? = some (.cells #[.pointer (some ⟨mp, 0, none⟩), vP, vN, .int .i64 ever, .bool told, vT] 67 (0, 0)) := by rw [e5 K (lt_some h.blk) (neP h.blk (by decide))]; exact h.blk
 have s1 := heap_setCell_same w3 K 2 _ _ (.slice (some ⟨g2, 0, none⟩) (nums.length + 1) cap2) hb3
 have far : ∀ k, k < w.heap.size → k ≠ K → some k ≠ vN.ownBlock → (w3.setCell ⟨K, 2, none⟩ (.slice (some ⟨g2, 0, none⟩) (nums.length + 1) cap2)).heap[k]? = w.heap[k]? := fun k hk h1 h2 => by rw [Below.heap_setCell _ _ _ _ h1]; exact e5 k hk h2
 have ne : ∀ {k cs t}, w.heap[k]? = some (.cells cs t (0, 0)) → t ≠ 67 → k ≠ K := fun hk ht => typ_ne hk h.blk ht
 refine ⟨⟨by rw [s1]; rfl, ownS_keep h.ownP fun g hg => ?_, ?_, ownS_keep h.ownT fun g hg => ?_⟩, far⟩
 ·obtain ⟨cur, hc⟩ := ownS_typ h.ownP hg
  exact far g (lt_some hc) (ne hc (by decide)) (neP hc (by decide))
 ·obtain ⟨cur, hc⟩ := ownS_typ hown (g := g2) rfl
  have := ownS_keep (w' := w3.setCell ⟨K, 2, none⟩ (.slice (some ⟨g2, 0, none⟩) (nums.length + 1) cap2)) hown fun g hg => by
   cases hg
   exact Below.heap_setCell _ _ _ _ (typ_ne hc hb3 (by decide))
  rw [List.length_append, List.map_append]
  exact this
 ·obtain ⟨cur, hc⟩ := ownS_typ h.ownT hg
  exact far g (lt_some hc) (ne hc (by decide)) (neP hc (by decide))
theorem KRow.putE (h : KRow w K mp pts nums ever told tl vP vN vT) (e' : Int) : KRow ((w.setCell ⟨K, 3, none⟩ (.int .i64 e')).setCell ⟨K, 4, none⟩ (.bool false)) K mp pts nums e' false tl vP vN vT ∧
  ∀ k, k ≠ K → ((w.setCell ⟨K, 3, none⟩ (.int .i64 e')).setCell ⟨K, 4, none⟩ (.bool false)).heap[k]? = w.heap[k]? := by
 have far : ∀ k, k ≠ K → ((w.setCell ⟨K, 3, none⟩ (.int .i64 e')).setCell ⟨K, 4, none⟩ (.bool false)).heap[k]? = w.heap[k]? := fun k hk => by rw [Below.heap_setCell _ _ _ _ hk, Below.heap_setCell _ _ _ _ hk]
 have s1 := heap_setCell_same w K 3 _ _ (.int .i64 e') h.blk
 have s2 := heap_setCell_same _ K 4 _ _ (.bool false) s1
 have ne : ∀ {k cs t}, w.heap[k]? = some (.cells cs t (0, 0)) → t ≠ 67 → k ≠ K := fun hk ht => typ_ne hk h.blk ht
 refine ⟨⟨by rw [s2]; rfl, ownS_keep h.ownP fun g hg => ?_, ownS_keep h.ownN fun g hg => ?_, ownS_keep h.ownT fun g hg => ?_⟩, far⟩
 ·obtain ⟨cur, hc⟩ := ownS_typ h.ownP hg
  exact far g (ne hc (by decide))
 ·obtain ⟨cur, hc⟩ := ownS_typ h.ownN hg
  exact far g (ne hc (by decide))
 ·obtain ⟨cur, hc⟩ := ownS_typ h.ownT hg
  exact far g (ne hc (by decide))
end
theorem KAt.row {w : World} {tag : Nat → Nat} {i : Nat} {d : KD} {vP vN vT : Value} (h : KAt w tag i d vP vN vT) : KRow w d.K d.mp d.s.pts d.s.nums d.s.ever d.told d.tl vP vN vT := ⟨h.blk, h.ownP, h.ownN, h.ownT⟩
def thereB (l : List Pt) (p : Pt) (k : Nat) : Bool := (l.take k).any fun q => q.1 == p.1 && q.2 == p.2
theorem thereB_succ (l : List Pt) (p : Pt) {k : Nat} (hk : k < l.length) : thereB l p (k + 1) = (thereB l p k || ((l.getD k (0, 0)).1 == p.1 && (l.getD k (0, 0)).2 == p.2)) := by
 unfold thereB
 have e : l.getD k (0, 0) = l[k] := by simp [hk]
 rw [List.take_succ_eq_append_getElem hk, List.any_append, e]
 simp
theorem thereB_all (l : List Pt) (p : Pt) : thereB l p l.length = true ↔ p ∈ l := by
 unfold thereB
 rw [List.take_length, List.any_eq_true]
 constructor
 ·rintro ⟨q, hq, h⟩
  simp only [Bool.and_eq_true, beq_iff_eq] at h
  have : q = p := Prod.ext h.1 h.2
  rw [← this]; exact hq
 ·intro h
  exact ⟨p, h, by simp⟩
theorem run_field_K1 (w : World) (K : Nat) : (Instr.fieldAt 67 (.pointer (some ⟨K, 0, none⟩)) 1).run Tryz.prog w = .ok (.pointer (some ⟨K, 1, none⟩)) w := by go_simp
theorem run_field_K2 (w : World) (K : Nat) : (Instr.fieldAt 67 (.pointer (some ⟨K, 0, none⟩)) 2).run Tryz.prog w = .ok (.pointer (some ⟨K, 2, none⟩)) w := by go_simp
theorem run_field_K3 (w : World) (K : Nat) : (Instr.fieldAt 67 (.pointer (some ⟨K, 0, none⟩)) 3).run Tryz.prog w = .ok (.pointer (some ⟨K, 3, none⟩)) w := by go_simp
end Go.Proofs.YtgpapegpdfonpaaGreatDoor
