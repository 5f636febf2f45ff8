/-
  The statement's part for meshes: World.triangles.
-/
import Derived.Test.YtgpapegpdfonpaaGreatDoorMeshEF
set_option linter.unusedVariables false
set_option linter.unusedSimpArgs false
namespace Go.Proofs.YtgpapegpdfonpaaGreatDoor
open Go.RowKit
attribute [local go_sem ↓] Go.wp_at_zero Go.wp_at_succ
theorem Bks.move {w w' : World} {WB N : Nat} {v0 : Value} {tag tag' : Nat → Nat} (h : Bks w WB v0 tag N) (hk : ∀ k, tag k ≠ 0 → tag k ≤ 4 → w'.heap[k]? = w.heap[k]? ∧ tag' k = tag k) (hlt : Tagged w' tag') (ha : Agree w tag tag') : Bks w' WB v0 tag' N := by
 obtain ⟨sh, nk, h1, h2⟩ := h
 exact ⟨sh, nk, h1.move hk hlt fun k hk => by rw [ha k (Nat.lt_trans hk h1.ltW)]; exact h1.low k hk, h2⟩
theorem Bks.mpost {w w' : World} {WB N i : Nat} {v0 : Value} {tag tag' : Nat → Nat} (h : Bks w WB v0 tag N) (hi : 4 < i) (hlt : Tagged w' tag') (ha : Agree w tag tag') (hc : Chg (fun k => tag k = i) w w') : Bks w' WB v0 tag' N :=
 h.move (fun k h0 h4 => ⟨hc.far k (h.tlt k h0) (by omega), ha k (h.tlt k h0)⟩) hlt ha
section
variable {P : Program} (w : World)
theorem wpList_append_whole {ops : Array Oper} {rest : List Oper} {o : Oper} {a : Act} {Q : Exit → Act → World → Prop} (hgd : o.guard = none) (s x : Operand) (t : TypeId)
  (ho : o.op = .call { callee := .builtin .append, args := #[s, x], argTypes := #[t, t] })
  (e : TypeId) (i : TypeInfo) (z : Value) (size bytes : Nat) (ht : P.underlying t = some (.slice e)) (hi : P.info? e = some i) (hz : i.zero = some z)
  (hsize : i.size = size) (hby : i.bytes = bytes) (hzs : z.cells.size = size) (hsz : 0 < size)
  (hs : a.eval s = .slice none 0 0) (ad : Option Addr) (m c base : Nat) (news : List Value) (hx : a.eval x = .slice ad m c) (hown : w.ownsRow base e size (.slice ad m c) m news) (h1 : ∀ u ∈ news, u.oneCell' = true)
  (h63 : m ≤ maxLen) (hbytes : m * bytes ≤ 140737488355328)
  (h : ∀ v w', w'.ownsRow w.heap.size e size v m news → Below w.heap.size w w' → wpList P ops Q rest (a.put o.dst v) w') : wpList P ops Q (o :: rest) a w := by
 by_cases hm : 0 < m
 ·obtain ⟨g, rfl, hg, hc⟩ := ownS_place hown hm
  have hl := hown.1
  refine wpList_append_where w hgd s x t ho w.heap.size e i z size bytes ht hi hz hsize hby hzs hsz (.slice none 0 0) 0 [] hs (World.ownsRow_nil _ _ _ _) ⟨g, 0, none⟩ m c news hx hl (fun j u hj => ?_) h1 hm (by omega) (by rw [Nat.zero_add]; exact hbytes) (Nat.le_refl _) w.heap.size rfl ?_
  ·have hadd : (⟨g, 0, none⟩ : Addr).add j = ⟨g, j, none⟩ := by unfold Addr.add; split <;> simp_all
   rw [hadd, hc j (by rw [← hl]; exact (List.getElem?_eq_some_iff.1 hj).1)]
   exact hj
  ·intro g2 cap w' ho2 hat hlt
   rw [Nat.zero_add, List.nil_append] at ho2
   rw [Nat.zero_add]
   refine h _ w' ho2 ?_
   rcases hat with ⟨hv, _⟩ | ⟨_, hgr⟩
   ·cases hv
   ·exact ⟨hgr.os, hgr.tape, hgr.output, hgr.size, fun k hk => hgr.block k hk (by simp)⟩
 ·have hm0 : m = 0 := by omega
  subst hm0
  have hn : news = [] := List.eq_nil_of_length_eq_zero (by have := hown.1; omega)
  subst hn
  refine wpList_plain hgd fun K hK => ?_
  have hrun : (Builtin.append_ #[t, t] o.type #[.slice none 0 0, .slice ad 0 c]).run P w = .ok (.slice none 0 0) w := by
   have hl : ∀ (x : Addr), (loadCells x 0).run P w = .ok #[] w := fun x => by simpa using run_loadCells_list (P := P) w x [] (by simp)
   cases ad <;> simp [Builtin.append_, run_underlying ht, Builtin.lenOf, Builtin.firstCells, sizeOf, typeInfo, hi, storeCells, hl]
  unfold Oper.wp execOp
  simp only [ho, resolve, invoke, builtin, Sem.run_bind, Sem.run_pure, Result.andThen_ok, List.map_toArray, List.map_cons, List.map_nil, hs, hx, hrun]
  exact hK _ _ (h _ w (World.ownsRow_nil _ _ _ _) (Below.refl _ _))
end
theorem isg_any (a : Option Addr) (cap base : Nat) (l : List Pt) (ts : List T3) (v : Value) (w : World) (hr : RawAt w a l) (hl : l.length ≤ 60) (hn : AllNear l) (hG : GoodT l ts) (ho : w.ownsRow base 53 3 v ts.length (flatT ts)) :
  Calls Tryz.prog 49 #[.slice a l.length cap, v] w fun e w' => e = .returned (.bool true) ∧ Below w.heap.size w w' := by
 obtain ⟨htl, hG⟩ := hG
 rcases hG with ⟨hf, rfl⟩ | ⟨hf, F, _, hne⟩
 ·obtain ⟨ta, tc, rfl⟩ := ownS_any ho
  refine is_flat a _ cap ta tc w ?_
  rcases hr with rfl | ⟨b, off, rfl, hb, hp⟩
  ·refine (flat_nil a cap w).mono ?_
   rintro e w' ⟨rfl, rfl⟩
   exact ⟨rfl, Below.refl _ _⟩
  ·refine (flat_any b off cap l w hl hn hb hp).mono ?_
   rintro e w' ⟨B, rfl, hB, hb'⟩
   have : B = true := hB.2 hf
   subst this
   exact ⟨rfl, hb'⟩
 ·rcases hr with rfl | ⟨b, off, rfl, hb, hp⟩
  ·exact absurd (fun i h2 hi => by simp at hi) hf
  ·obtain ⟨ta, tc, rfl⟩ := ownS_any ho
   rcases TriAt.of_own ho with h | ⟨g, rfl, hg, hT⟩
   ·exact absurd h hne
   ·exact is_any b off cap g tc l ts w hl hn hb hp hg hT htl F
theorem Wrote.bks {w w' : World} {WB N j nk : Nat} {v0 v : Value} {tag : Nat → Nat} {sh : Nat → Sh} (hW : Wrote j WB v0 tag sh nk v w w') (hl : ∀ j, j < 3 → (sh j).ls.length = (sh j).ms.length ∧ (sh j).ls.length ≤ 4 * N) (hnk : nk ≤ 2 * N) :
  ∃ tag', Bks w' WB v0 tag' (N + 1) ∧ (∀ k, k < w.heap.size → some k ≠ v.ownBlock → tag' k = tag k) ∧ Chg (fun k => k = WB ∨ tag k = j + 1 ∨ some k = v.ownBlock) w w' := by
 obtain ⟨tag', sh', hB', hoth, hl1, hl2, htag, hchg⟩ := hW
 refine ⟨tag', ⟨sh', nk + 1, hB', fun i hi => ?_, by omega⟩, htag, hchg⟩
 by_cases e : i = j
 ·subst e
  have := hl i hi
  exact ⟨hl1, by omega⟩
 ·rw [hoth i e]
  have := hl i hi
  exact ⟨this.1, by omega⟩
theorem flatT_one {ts : List T3} : ∀ u ∈ flatT ts, u.oneCell' = true := by
 intro u hu
 obtain ⟨t, _, h⟩ := List.mem_flatMap.1 hu
 simp only [encT, List.mem_cons, List.not_mem_nil, or_false] at h
 rcases h with rfl | rfl | rfl <;> rfl
theorem KAt.told {w w5 : World} {tag tag7 : Nat → Nat} {i : Nat} {d : KD} {vP vN vT v5 : Value} {nt : List T3} (h : KAt w tag i d vP vN vT) (hb : Below w.heap.size w w5) (ho : w5.ownsRow w.heap.size 53 3 v5 nt.length (flatT nt)) (hnt : nt = d.s.ts.map (numT d.s.nums))
  (h7 : ∀ k, tag7 k = if some k = v5.ownBlock then i else tag k) :
  KAt ((w5.setCell ⟨d.K, 5, none⟩ v5).setCell ⟨d.K, 4, none⟩ (.bool true)) tag7 i ⟨d.K, d.mp, d.s, true, nt⟩ vP vN v5 := by
 have hK := h.lt
 have far : ∀ k, k ≠ d.K → ((w5.setCell ⟨d.K, 5, none⟩ v5).setCell ⟨d.K, 4, none⟩ (.bool true)).heap[k]? = w5.heap[k]? := fun k hk => by rw [Below.heap_setCell _ _ _ _ hk, Below.heap_setCell _ _ _ _ hk]
 have old : ∀ k, k < w.heap.size → tag7 k = tag k := fun k hk => by rw [h7, if_neg fun e => by have := (ho.lt k e.symm).1; omega]
 have b5 : w5.heap[d.K]? = some (.cells (kCells d vP vN vT) 67 (0, 0)) := by rw [hb.block _ hK]; exact h.blk
 have s1 := heap_setCell_same w5 d.K 5 _ _ v5 b5
 have s2 := heap_setCell_same _ d.K 4 _ _ (.bool true) s1
 have ne : ∀ {g cs t}, w.heap[g]? = some (.cells cs t (0, 0)) → t ≠ 67 → g ≠ d.K := fun hg ht => typ_ne hg h.blk ht
 refine ⟨?_, by rw [old _ hK]; exact h.tK, ownS_keep h.ownP fun g hg => ?_, ownS_keep h.ownN fun g hg => ?_, ?_, fun g hg => by rw [old g (ownS_lt h.ownP hg)]; exact h.tP g hg, fun g hg => by rw [old g (ownS_lt h.ownN hg)]; exact h.tN g hg, fun g hg => by rw [h7, if_pos hg.symm], fun _ => hnt⟩
 ·rw [s2]; rfl
 ·obtain ⟨cur, hc⟩ := ownS_typ h.ownP hg
  rw [far g (ne hc (by decide)), hb.block g (lt_some hc)]
 ·obtain ⟨cur, hc⟩ := ownS_typ h.ownN hg
  rw [far g (ne hc (by decide)), hb.block g (lt_some hc)]
 ·refine ownB_mono (ownS_keep ho fun g hg => far g fun e => ?_) (Nat.zero_le _)
  have := (ho.lt g hg).1
  omega
def TriPost (MAt : MeshPred) (WB N : Nat) (v0 : Value) (w w' : World) (tag : Nat → Nat) (iK iM : Nat) (d : KD) : Prop :=
 ∃ tag' d', Bks w' WB v0 tag' (N + 1) ∧ KM MAt w' tag' iK iM d' ∧ d'.K = d.K ∧ d'.s = d.s ∧ Agree w tag tag' ∧ Chg (fun k => BkF WB tag k ∨ tag k = iK ∨ tag k = iM) w w'
set_option maxRecDepth 100000 in
set_option maxHeartbeats 8000000 in
theorem wtri_any {MAt : MeshPred} (L : MeshLaw MAt) (WB N iK iM : Nat) (v0 : Value) (tag : Nat → Nat) (d : KD) (w : World) (hB : Bks w WB v0 tag N) (hN : N ≤ 925904528800) (hK : KM MAt w tag iK iM d) (h1 : 4 < iK) (h2 : 4 < iM) (h3 : iK ≠ iM) :
  Calls Tryz.prog 60 #[.pointer (some ⟨WB, 0, none⟩), .pointer (some ⟨d.K, 0, none⟩)] w fun e w' => ∃ v, e = .returned (.tuple #[v, .bool true]) ∧ w'.ownsRow w.heap.size 53 3 v d.s.ts.length (flatT d.s.ts) ∧ TriPost MAt WB N v0 w w' tag iK iM d := by
 obtain ⟨⟨vP, vN, vT, hA⟩, hM⟩ := hK
 have ok := L.ok _ _ _ _ _ hM
 have OK : Hid d.s.Ok := ok
 have HT := L.triangles w tag iM d.mp d.s (by omega) hM hB.tlt
 have HB : Hid (Bks w WB v0 tag N) := hB
 have HA : Hid (KAt w tag iK d vP vN vT) := hA
 have hWB := hB.lt
 have hKl := hA.lt
 have c0 := hA.cells.1
 obtain ⟨iE, hiE, hzE, hsE, hbE⟩ := info_parts infoE1
 clear hB hA hM ok
 go_enter Tryz.func60, Tryz.ntmps60
 go_upto_region 2 with (go_at_call 100; refine HT.mono ?_; rintro e w1 ⟨v, rfl, hown1, tag1, hag1, hlt1, hM1, hch1, hv1⟩)
 have hA1 := HA.out.keep (w' := w1) (tag' := tag1) fun k hk ht => ⟨hch1.far k hk (by omega), (hag1 k hk).trans ht⟩
 have hB1 := HB.out.mpost h2 hlt1 hag1 hch1
 have hv1n := new_row hown1
 obtain ⟨va, vc, rfl⟩ := ownS_any hown1
 obtain ⟨pa, pc, rfl⟩ := ownS_any hA1.ownP
 obtain ⟨na, nc, rfl⟩ := ownS_any hA1.ownN
 obtain ⟨tta, ttc, rfl⟩ := ownS_any hA1.ownT
 obtain ⟨_, e1, e2, _, e4, e5, ef⟩ := hA1.cells
 have hlm : (d.s.ts.map (numT d.s.nums)).length = d.s.ts.length := List.length_map _
 have hta : TriAt w1 va (d.s.ts.map (numT d.s.nums)) := TriAt.of_own (c := vc) (by rw [hlm]; exact hown1)
 have PL := places_any d.K na nc d.s.nums va vc (d.s.ts.map (numT d.s.nums)) w1 (by have := OK.out.len; have := OK.out.le; omega) e2 (NumsAt.of_own hA1.ownN) hta (by rw [hlm]; exact OK.out.good.1) OK.out.mem
 rw [hlm, OK.out.back] at PL
 have H1 : Hid (KAt w1 tag1 iK d (.slice pa d.s.pts.length pc) (.slice na d.s.nums.length nc) (.slice tta d.tl.length ttc) ∧ Bks w1 WB v0 tag1 N ∧ MAt w1 tag1 iM d.mp d.s ∧ Agree w tag tag1 ∧ Chg (fun k => tag k = iM) w w1 ∧ Tagged w1 tag1 ∧ w.heap.size ≤ w1.heap.size) := ⟨hA1, hB1, hM1, hag1, hch1, hlt1, hch1.size⟩
 have H1V : Hid (w1.ownsRow w.heap.size 53 3 (.slice va d.s.ts.length vc) d.s.ts.length (flatT (d.s.ts.map (numT d.s.nums))) ∧ (∀ g, (Value.slice va d.s.ts.length vc).ownBlock = some g → tag1 g = 0 ∧ w.heap.size ≤ g) ∧ TriAt w1 va (d.s.ts.map (numT d.s.nums)) ∧ (d.s.ts.map (numT d.s.nums)).length = d.s.ts.length) := ⟨hown1, fun g hg => ⟨hv1 g hg, hv1n g hg⟩, hta, hlm⟩
 have hK1 : d.K < w1.heap.size := hA1.lt
 clear HT hown1 hag1 hlt1 hM1 hch1 hv1 hA1 hB1 hv1n hta hlm c0 HA HB
 go_upto_region 3 with (go_at_call 101; refine PL.mono ?_; rintro e w2 ⟨lv, rfl, hown2, hb2⟩)
 obtain ⟨la, lc, rfl⟩ := ownS_any hown2
 have f1 := (hb2.cell (p := ⟨d.K, 1, none⟩) hK1).trans e1
 have IS := isg_any pa pc w1.heap.size d.s.pts d.s.ts (.slice la d.s.ts.length lc) w2 ((RowP.raw' H1.out.1.ownP).below hb2) OK.out.le OK.out.near OK.out.good hown2
 clear PL
 go_upto_region 6 with (go_at_call 49; refine IS.mono ?_; rintro e w3 ⟨rfl, hb3⟩)
 have hb13 := hb2.trans (hb3.mono hb2.size)
 have hown3 := ownB_below hown2 hb3
 have f4 := (hb13.cell (p := ⟨d.K, 4, none⟩) hK1).trans e4
 have f5 := (hb13.cell (p := ⟨d.K, 5, none⟩) hK1).trans e5
 clear IS f1 hown2 hb2 hb3
 go_cut [10] (fun s10 wx => s10 = .bool true ∧ Below w3.heap.size w3 wx)
 case first =>
  as_aux_lemma =>
  cases ht : d.told with
  | false =>
   rw [ht] at f4
   clear ht
   go_wp2
   go_meet
   case rel => exact ⟨rfl, Below.refl _ _⟩
  | true =>
   rw [ht] at f4
   have htl := H1.out.1.tol ht
   have ST := sameTris_any tta va ttc vc (d.s.ts.map (numT d.s.nums)) w3 ((TriAt.of_own (by have := H1.out.1.ownT; rw [htl] at this; exact this)).below hb13) (H1V.out.2.2.1.below hb13) (by rw [H1V.out.2.2.2]; exact OK.out.good.1)
   rw [H1V.out.2.2.2] at ST
   have hl2 : d.tl.length = d.s.ts.length := by rw [htl, H1V.out.2.2.2]
   rw [hl2] at f5
   clear ht htl hl2
   go_wp2_with (go_at_call 56; refine ST.mono ?_; rintro e w4 ⟨rfl, hb4⟩)
   go_meet
   case rel => exact ⟨rfl, hb4⟩
 case rest =>
  as_aux_lemma =>
  obtain ⟨rfl, hb4⟩ := hcut
  have hb14 := hb13.trans (hb4.mono hb13.size)
  have hown4 := ownB_below hown3 hb4
  have HV4 : Hid (wc.ownsRow w.heap.size 53 3 (.slice va d.s.ts.length vc) d.s.ts.length (flatT (d.s.ts.map (numT d.s.nums)))) := ownB_below H1V.out.1 hb14
  have HOL : Hid (wc.ownsRow w1.heap.size 53 3 (.slice la d.s.ts.length lc) d.s.ts.length (flatT d.s.ts)) := hown4
  have hts : d.s.ts.length ≤ 4000 := OK.out.good.1
  have g4 := (hb14.cell (p := ⟨d.K, 4, none⟩) hK1).trans e4
  have g5 := (hb14.cell (p := ⟨d.K, 5, none⟩) hK1).trans e5
  have r4 : wc.frozen? ⟨d.K, 4, none⟩ = false := (hb14.frozen (p := ⟨d.K, 4, none⟩) hK1).trans (ef 4)
  have r5 : wc.frozen? ⟨d.K, 5, none⟩ = false := (hb14.frozen (p := ⟨d.K, 5, none⟩) hK1).trans (ef 5)
  have hK4 : d.K < wc.heap.size := Nat.lt_of_lt_of_le hK1 hb14.size
  clear hown3 hown4 hb13 hb4 f4 f5 e1 e2 e4 e5 ef
  generalize wc = W4 at *
  go_upto_region 9 with (at_builtin; refine wpList_append_whole _ (by rfl) (.tmp 44) (.tmp 45) 42 (by rfl) 53 iE (.agg #[.int .i64 0, .int .i64 0, .int .i64 0]) 3 24 Tryz.underlying42 hiE hzE hsE hbE rfl (by decide) (by rfl) va d.s.ts.length vc w.heap.size (flatT (d.s.ts.map (numT d.s.nums))) (by rfl) HV4.out flatT_one (by unfold maxLen; omega) (by omega) ?_; intro v5 w5 hown5 hb5)
  obtain ⟨a5, c5', rfl⟩ := ownS_any hown5
  have hb15 := hb14.trans (hb5.mono hb14.size)
  have k4 := (hb5.cell (p := ⟨d.K, 4, none⟩) hK4).trans g4
  have k5 := (hb5.cell (p := ⟨d.K, 5, none⟩) hK4).trans g5
  have z4 : w5.frozen? ⟨d.K, 4, none⟩ = false := (hb5.frozen (p := ⟨d.K, 4, none⟩) hK4).trans r4
  have z5 : w5.frozen? ⟨d.K, 5, none⟩ = false := (hb5.frozen (p := ⟨d.K, 5, none⟩) hK4).trans r5
  have hK5 : d.K < w5.heap.size := Nat.lt_of_lt_of_le hK4 hb5.size
  obtain ⟨tag7, h7⟩ : ∃ tag7 : Nat → Nat, ∀ k, tag7 k = if some k = (Value.slice a5 d.s.ts.length c5').ownBlock then iK else tag1 k := ⟨fun k => if some k = (Value.slice a5 d.s.ts.length c5').ownBlock then iK else tag1 k, fun _ => rfl⟩
  have ho5 : w5.ownsRow w1.heap.size 53 3 (.slice a5 d.s.ts.length c5') (d.s.ts.map (numT d.s.nums)).length (flatT (d.s.ts.map (numT d.s.nums))) := by rw [H1V.out.2.2.2]; exact ownB_mono hown5 hb14.size
  have hKA := H1.out.1.told hb15 ho5 rfl h7
  have old7 : ∀ k, k < w1.heap.size → tag7 k = tag1 k := fun k hk => by rw [h7, if_neg fun e => by have := (ho5.lt k e.symm).1; omega]
  have far7 : ∀ k, k < w1.heap.size → k ≠ d.K → ((w5.setCell ⟨d.K, 5, none⟩ (.slice a5 d.s.ts.length c5')).setCell ⟨d.K, 4, none⟩ (.bool true)).heap[k]? = w1.heap[k]? := fun k hk hne => by
   rw [Below.heap_setCell _ _ _ _ hne, Below.heap_setCell _ _ _ _ hne, hb15.block k hk]
  have hsz7 : ((w5.setCell ⟨d.K, 5, none⟩ (.slice a5 d.s.ts.length c5')).setCell ⟨d.K, 4, none⟩ (.bool true)).heap.size = w5.heap.size := by simp
  have htK : tag1 d.K = iK := H1.out.1.tK
  have htg7 : Tagged ((w5.setCell ⟨d.K, 5, none⟩ (.slice a5 d.s.ts.length c5')).setCell ⟨d.K, 4, none⟩ (.bool true)) tag7 := fun k hk => by
   rw [hsz7]
   by_cases e : some k = (Value.slice a5 d.s.ts.length c5').ownBlock
   ·exact (ho5.lt k e.symm).2
   ·rw [h7, if_neg e] at hk
    exact Nat.lt_of_lt_of_le (H1.out.2.2.2.2.2.1 k hk) hb15.size
  have hB7 : Bks ((w5.setCell ⟨d.K, 5, none⟩ (.slice a5 d.s.ts.length c5')).setCell ⟨d.K, 4, none⟩ (.bool true)) WB v0 tag7 N := H1.out.2.1.move (fun k h0 h4 => by
    have hk := H1.out.2.1.tlt k h0
    exact ⟨far7 k hk fun e => by rw [e, htK] at h4; omega, old7 k hk⟩) htg7 old7
  have hM7 : MAt ((w5.setCell ⟨d.K, 5, none⟩ (.slice a5 d.s.ts.length c5')).setCell ⟨d.K, 4, none⟩ (.bool true)) tag7 iM d.mp d.s := L.frame _ _ _ _ _ _ _ H1.out.2.2.1 (by rw [hsz7]; exact hb15.size) fun k hk ht => ⟨far7 k hk fun e => by rw [e, htK] at ht; exact h3 ht, (old7 k hk).trans ht⟩
  have hV7 : ((w5.setCell ⟨d.K, 5, none⟩ (.slice a5 d.s.ts.length c5')).setCell ⟨d.K, 4, none⟩ (.bool true)).ownsRow 0 53 3 (.slice va d.s.ts.length vc) d.s.ts.length (flatT (d.s.ts.map (numT d.s.nums))) :=
   ownB_mono (ownS_keep H1V.out.1 fun g hg => far7 g (ownS_lt H1V.out.1 hg) fun e => by have := (H1V.out.2.1 g hg).1; rw [e, htK] at this; omega) (Nat.zero_le _)
  have hVf : ∀ g, (Value.slice va d.s.ts.length vc).ownBlock = some g → tag7 g = 0 ∧ WB < g := fun g hg => ⟨by rw [old7 g (ownS_lt H1V.out.1 hg)]; exact (H1V.out.2.1 g hg).1, by have := (H1V.out.2.1 g hg).2; omega⟩
  have hL7 : ((w5.setCell ⟨d.K, 5, none⟩ (.slice a5 d.s.ts.length c5')).setCell ⟨d.K, 4, none⟩ (.bool true)).ownsRow w1.heap.size 53 3 (.slice la d.s.ts.length lc) d.s.ts.length (flatT d.s.ts) :=
   ownS_keep HOL.out fun g hg => by
    have hge := (HOL.out.lt g hg).1
    have hlt := (HOL.out.lt g hg).2
    have hne : g ≠ d.K := by omega
    rw [Below.heap_setCell _ _ _ _ hne, Below.heap_setCell _ _ _ _ hne, hb5.block g hlt]
  have hC7 : ∀ k, k < w1.heap.size → k ≠ d.K → ((w5.setCell ⟨d.K, 5, none⟩ (.slice a5 d.s.ts.length c5')).setCell ⟨d.K, 4, none⟩ (.bool true)).heap[k]? = w1.heap[k]? := far7
  have hos : ((w5.setCell ⟨d.K, 5, none⟩ (.slice a5 d.s.ts.length c5')).setCell ⟨d.K, 4, none⟩ (.bool true)).os = w1.os ∧ ((w5.setCell ⟨d.K, 5, none⟩ (.slice a5 d.s.ts.length c5')).setCell ⟨d.K, 4, none⟩ (.bool true)).tape = w1.tape ∧ ((w5.setCell ⟨d.K, 5, none⟩ (.slice a5 d.s.ts.length c5')).setCell ⟨d.K, 4, none⟩ (.bool true)).output = w1.output := ⟨hb15.os, hb15.tape, hb15.output⟩
  have hC17 : Chg (fun k => k = d.K) w1 ((w5.setCell ⟨d.K, 5, none⟩ (.slice a5 d.s.ts.length c5')).setCell ⟨d.K, 4, none⟩ (.bool true)) := ⟨hos.1, hos.2.1, hos.2.2, by rw [hsz7]; exact hb15.size, fun k hk hne => far7 k hk hne⟩
  obtain ⟨W7, hW7⟩ : ∃ W7, (w5.setCell ⟨d.K, 5, none⟩ (.slice a5 d.s.ts.length c5')).setCell ⟨d.K, 4, none⟩ (.bool true) = W7 := ⟨_, rfl⟩
  rw [hW7] at hKA far7 hsz7 htg7 hB7 hM7 hV7 hL7 hC17
  have HW7 : Hid ((w5.setCell ⟨d.K, 5, none⟩ (.slice a5 d.s.ts.length c5')).setCell ⟨d.K, 4, none⟩ (.bool true) = W7) := hW7
  obtain ⟨sh, nk, hBk, hlen, hnk⟩ := hB7
  have HTR := btris_any WB nk d.s.ts.length v0 (.slice va d.s.ts.length vc) tag7 sh _ W7 hBk (hlen 1 (by decide)).1 (by have := (hlen 1 (by decide)).2; omega) (by omega) hV7 (by omega) hVf
  have HFIN : Hid (∀ w8, Wrote 1 WB v0 tag7 sh nk (.slice va d.s.ts.length vc) W7 w8 → w8.ownsRow w.heap.size 53 3 (.slice la d.s.ts.length lc) d.s.ts.length (flatT d.s.ts) ∧ TriPost MAt WB N v0 w w8 tag iK iM d) := fun w8 hW8 => by
   obtain ⟨tag8, hB8, ht8, hc8⟩ := hW8.bks hlen hnk
   obtain ⟨hA1, hB1, hM1, hag1, hch1, hlt1, hs1⟩ := H1.out
   have hWBt : tag7 WB = 4 := hBk.tW
   have keep8 : ∀ k i, 4 < i → k < W7.heap.size → tag7 k = i → w8.heap[k]? = W7.heap[k]? ∧ tag8 k = i := fun k i hi hk ht => by
    have hne : some k ≠ (Value.slice va d.s.ts.length vc).ownBlock := fun e => by have := (hVf k e.symm).1; omega
    exact ⟨hc8.far k hk fun h => by rcases h with h | h | h <;> first | (subst h; omega) | omega | exact hne h, by rw [ht8 k hk hne]; exact ht⟩
   refine ⟨ownB_mono (ownS_keep hL7 fun g hg => ?_) hs1, tag8, ⟨d.K, d.mp, d.s, true, d.s.ts.map (numT d.s.nums)⟩, hB8, ⟨⟨_, _, _, hKA.keep fun k hk ht => keep8 k iK h1 hk ht⟩, L.frame _ _ _ _ _ _ _ hM7 hc8.size fun k hk ht => keep8 k iM h2 hk ht⟩, rfl, rfl, fun k hk => ?_, ?_⟩
   ·have hge := (hL7.lt g hg).1
    have hlt := (hL7.lt g hg).2
    refine hc8.far g hlt fun h => ?_
    rcases h with h | h | h
    ·have := hB1.lt
     omega
    ·have : tag1 g = 0 := by
      by_cases e : tag1 g = 0
      ·exact e
      ·have := hlt1 g e; omega
     rw [h7] at h
     split at h <;> omega
    ·have := ownS_lt H1V.out.1 h.symm
     omega
   ·have hk1 : k < w1.heap.size := by omega
    have hne : some k ≠ (Value.slice va d.s.ts.length vc).ownBlock := fun e => by have := (H1V.out.2.1 k e.symm).2; omega
    rw [ht8 k (Nat.lt_of_lt_of_le hk1 (by rw [hsz7]; exact hb15.size)) hne, old7 k hk1, hag1 k hk]
   ·have c1 : Chg (fun k => BkF WB tag k ∨ tag k = iK ∨ tag k = iM) w W7 := Chg.trans (hch1.mono fun k _ h => .inr (.inr h)) hC17 (fun k hk e => .inr (.inl (by rw [← hag1 k hk, e]; exact htK)))
    refine Chg.trans c1 hc8 (fun k hk h => ?_)
    have hk1 : k < w1.heap.size := by omega
    rcases h with h | h | h
    ·exact .inl (.inl h)
    ·rw [old7 k hk1, hag1 k hk] at h
     exact .inl (.inr ⟨by omega, by omega⟩)
    ·have := (H1V.out.2.1 k h.symm).2
     omega
  clear hKA far7 hsz7 htg7 hM7 hV7 hL7 hC17 hW7 hBk hlen hnk hVf ho5 old7 hC7 hos htK H1V H1 HV4 HOL hown5 hb5 hb14 hb15 g4 g5 r4 r5
  go_upto_region 11 with fail
  rw [HW7.out]
  have hWW : WB < W7.heap.size ∨ True := .inr trivial
  clear k4 k5 z4 z5 hWW HW7
  go_upto_region 12 with (go_at_call 50; refine HTR.mono ?_; rintro e w8 ⟨rfl, hW8⟩)
  have HR := HFIN.out w8 hW8
  have HRR : Hid (w8.ownsRow w.heap.size 53 3 (.slice la d.s.ts.length lc) d.s.ts.length (flatT d.s.ts) ∧ TriPost MAt WB N v0 w w8 tag iK iM d) := HR
  clear HR HFIN HTR hW8
  go_wp2
  go_ret2
  exact ⟨_, rfl, HRR.out.1, HRR.out.2⟩
end Go.Proofs.YtgpapegpdfonpaaGreatDoor
