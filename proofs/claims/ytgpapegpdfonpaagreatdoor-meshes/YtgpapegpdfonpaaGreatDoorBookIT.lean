/-
  The statement's book, whole: ints walked.
  The statement's book, whole: tris walked.
-/
import Derived.Test.YtgpapegpdfonpaaGreatDoorBookA
set_option linter.unusedVariables false
set_option linter.unusedSimpArgs false
namespace Go.Proofs.YtgpapegpdfonpaaGreatDoor
open Go.RowKit
attribute [local go_sem ↓] Go.wp_at_zero Go.wp_at_succ
theorem Bk.forms {w : World} {WB nk : Nat} {v0 : Value} {tag : Nat → Nat} {sh : Nat → Sh} (h : Bk w WB v0 tag sh nk) (j : Nat) (hj : j < 3) :
  ∃ ia ic ma mc, (sh j).vL = .slice ia (sh j).ls.length ic ∧ (sh j).vM = .slice ma (sh j).ms.length mc ∧ w.ownsRow 0 (tLf j) 1 (.slice ia (sh j).ls.length ic) (sh j).ls.length (sh j).ls ∧ w.ownsRow 0 3 1 (.slice ma (sh j).ms.length mc) (sh j).ms.length ((sh j).ms.map (.int .i64)) := by
 have S := h.she j hj
 obtain ⟨ia, ic, e1⟩ := own_anyW S.ownL
 obtain ⟨ma, mc, e2⟩ := own_anyW S.ownM
 exact ⟨ia, ic, ma, mc, e1, e2, e1 ▸ S.ownL, e2 ▸ S.ownM⟩
theorem Bk.fill {w w' : World} {WB nk g : Nat} {v0 : Value} {tag : Nat → Nat} {sh : Nat → Sh} (h : Bk w WB v0 tag sh nk) (hg : tag g = 0) (hc : w.grownBy w' (some g)) : Bk w' WB v0 tag sh nk :=
 h.chg (Chg.of_grown (F := fun k => k = g) hc fun k hk => by cases hk; rfl) fun k hk _ => by rw [hk]; exact .inl hg
def RndE (W1 : World) (tag1 : Nat → Nat) (WB j : Nat) (v0 : Value) (sh1 : Nat → Sh) (nk : Nat) (m : Int) (q n0 : Nat) (vl : Value) (wr : World) : Prop :=
 ∃ n tag sh, Rnd W1 tag1 WB j v0 sh1 nk m q n vl wr tag sh ∧ (sh j).ls.length = (sh j).ms.length ∧ n = n0 + q
set_option maxHeartbeats 4000000 in
theorem bints_any (WB nk n : Nat) (v0 v : Value) (tag : Nat → Nat) (sh : Nat → Sh) (xs : List Value) (w : World) (h : Bk w WB v0 tag sh nk) (hlen : (sh 0).ls.length = (sh 0).ms.length) (hl : (sh 0).ls.length ≤ 3703618117000) (hk : nk ≤ 1851809059000)
  (hv : w.ownsRow 0 3 1 v n xs) (hn : n ≤ 5000000000000) (hf : ∀ g, v.ownBlock = some g → tag g = 0 ∧ WB < g) :
  Calls Tryz.prog 46 #[.pointer (some ⟨WB, 1, none⟩), v] w fun e w' => e = .returned (.tuple #[]) ∧ Wrote 0 WB v0 tag sh nk v w w' := by
 have b7 := h.cells.2.2.2.2.2.2.2
 have f7 := h.frozen 7
 have x0 : IntKind.i64.wrap ((nk : Int) + 1) = (nk : Int) + 1 := wrap_id (by omega) (by omega)
 have x1 : IntKind.i64.wrap (-1000 - ((nk : Int) + 1)) = -1000 - ((nk : Int) + 1) := wrap_id (by omega) (by omega)
 obtain ⟨hB1, hC1⟩ := h.bump
 have hWb : ∀ g, v.ownBlock = some g → g ≠ WB := fun g hg e => by have := (hf g hg).2; omega
 have hv1 : (w.setCell ⟨WB, 7, none⟩ (.int .i64 ((nk : Int) + 1))).ownsRow 0 3 1 v n xs := ownS_keep hv fun g hg => hC1.far g (ownS_lt hv hg) (hWb g hg)
 have hC : Chg (fun k => k = WB ∨ some k = v.ownBlock) w (w.setCell ⟨WB, 7, none⟩ (.int .i64 ((nk : Int) + 1))) := hC1.mono fun k _ e => .inl e
 obtain ⟨va, vc, rfl⟩ := ownS_any hv
 have hxs : xs.length = n := by have := hv.1; omega
 have HF : Hid (∀ g, (Value.slice va n vc).ownBlock = some g → tag g = 0 ∧ WB < g) := hf
 have HLEN : Hid ((sh 0).ls.length = (sh 0).ms.length ∧ (sh 0).ls.length ≤ 3703618117000) := ⟨hlen, hl⟩
 obtain ⟨iI, hiI, hzI, hsI, hbI⟩ := info_parts infoSl
 obtain ⟨i0, hi0, hz0, hs0, hb0⟩ := info_parts info3
 clear h hv hC1 hWb hf hlen hl
 go_enter Tryz.func46, Tryz.ntmps46
 go_wp2
 generalize hW : w.setCell ⟨WB, 7, none⟩ (.int .i64 ((nk : Int) + 1)) = W at *
 clear hW b7 f7 x0 x1
 generalize -1000 - ((nk : Int) + 1) = m at *
 go_loopw [5] (fun i wr => ∃ k : Nat, k ≤ n ∧ i = .int .i64 k ∧ Bk wr WB v0 tag sh (nk + 1) ∧ wr.ownsRow 0 3 1 (.slice va n vc) n (List.replicate k (.int .i64 m) ++ xs.drop k) ∧ Chg (fun k => k = WB ∨ some k = (Value.slice va n vc).ownBlock) w wr) (fun i _ => n - (intOf i).toNat)
 case atStart => exact ⟨0, by omega, rfl, hB1, by simpa using hv1, hC⟩
 case round =>
  clear hB1 hC hv1
  obtain ⟨k, hkn, rfl, hB, hv, hC⟩ := hrel
  by_cases hlt : k < n
  ·obtain ⟨g, rfl, hg, c0⟩ := own_place hv k hlt
   have f0 := hv.frozenAt k
   obtain ⟨hv', hgr⟩ := hv.stored k (.int .i64 m)
   have hB' := hB.fill (HF.out g rfl).1 hgr
   rw [fill_set (by omega)] at hv'
   have HB : Hid (Bk (wr.setCell ⟨g, k, none⟩ (.int .i64 m)) WB v0 tag sh (nk + 1)) := hB'
   have HV : Hid ((wr.setCell ⟨g, k, none⟩ (.int .i64 m)).ownsRow 0 3 1 (.slice (some ⟨g, 0, none⟩) n vc) n (List.replicate (k + 1) (.int .i64 m) ++ xs.drop (k + 1))) := hv'
   have HK : Hid (Chg (fun k => k = WB ∨ some k = (Value.slice (some ⟨g, 0, none⟩) n vc).ownBlock) w (wr.setCell ⟨g, k, none⟩ (.int .i64 m))) := hC.trans (Chg.of_grown (F := fun k => k = g) hgr fun k hk => by cases hk; rfl) fun k _ e => .inr (by rw [e]; rfl)
   have c1 : ∃ u, wr.cell? ⟨g, k, none⟩ = some u := by
    rw [c0]
    have : k < (List.replicate k (Value.int .i64 m) ++ xs.drop k).length := by simp; omega
    exact ⟨_, List.getElem?_eq_getElem this⟩
   obtain ⟨u, c1⟩ := c1
   have y0 : (0 : Int) ≤ (k : Int) := by omega
   have y1 : (k : Int) < (n : Int) := by omega
   have y4 : IntKind.i64.wrap ((k : Int) + 1) = (k : Int) + 1 := wrap_id (by omega) (by omega)
   clear hB hv hC hB' hv' hgr c0
   go_wp2
   go_roundw
   case rel => exact ⟨k + 1, by omega, by go_num, HB.out, HV.out, HK.out⟩
   case measure => simp [intOf]; omega
  ·have ek : k = n := by omega
   subst ek
   have hv2 : wr.ownsRow 0 (tEf 0) (szf 0) (.slice va k vc) k (List.replicate (k * szf 0) (.int .i64 m)) := by
    rw [List.drop_eq_nil_of_le (by omega), List.append_nil] at hv
    show wr.ownsRow 0 3 1 (.slice va k vc) k (List.replicate (k * 1) (.int .i64 m))
    rw [Nat.mul_one]
    exact hv
   obtain ⟨tag1, ht1, hB1, hH1⟩ := hB.take (xs := []) (j := 0) (by decide) hv2 HF.out
   have HT1 : Hid (∀ k', some k' ≠ (Value.slice va k vc).ownBlock → tag1 k' = tag k') := ht1
   have HC1 : Hid (Chg (fun k' => k' = WB ∨ some k' = (Value.slice va k vc).ownBlock) w wr) := hC
   have HR1 : Hid (RndE wr tag1 WB 0 v0 sh (nk + 1) m 0 k (.slice va k vc) wr) := ⟨k, tag1, sh, Rnd.start hB1 hH1, HLEN.out.1, rfl⟩
   clear hv hv2 hB hC ht1 hB1 hH1 HF
   go_wp2
   generalize wr = W1 at *
   go_loopw [1, 6] (fun vl i wr => ∃ q : Nat, q ≤ 4 ∧ i = .int .i64 q ∧ RndE W1 tag1 WB 0 v0 sh (nk + 1) m q k vl wr) (fun _ i _ => 4 - (intOf i).toNat)
   case atStart => exact ⟨0, by omega, rfl, HR1.out⟩
   case round =>
    clear HR1
    obtain ⟨q, hq, rfl, n', tag2, sh2, R, hlen2, hn2⟩ := hrel
    have hmsl := R.msl
    have HL2 : Hid ((sh2 0).ls.length = (sh2 0).ms.length) := hlen2
    have hb8 : (sh2 0).ls.length + 1 ≤ 3703618118000 := by have := HLEN.out; omega
    have hm8 : (sh2 0).ms.length + 1 ≤ 3703618118000 := by omega
    have hn8 : n' + 1 ≤ 5000000000010 := by omega
    clear hlen2 hmsl
    by_cases hq4 : q < 4
    ·obtain ⟨ia, ic, ma, mc, eI, eM, oI, oM⟩ := R.bk.forms 0 (by decide)
     obtain ⟨la, lc, rfl⟩ := ownS_any R.hand.own
     obtain ⟨_, b1, b2, _⟩ := R.bk.cells
     rw [eI] at b1
     rw [eM] at b2
     have HI : Hid ((sh2 0).vL = .slice ia (sh2 0).ls.length ic) := eI
     have HM : Hid ((sh2 0).vM = .slice ma (sh2 0).ms.length mc) := eM
     have HR : Hid (Rnd W1 tag1 WB 0 v0 sh (nk + 1) m q n' (.slice la n' lc) wr tag2 sh2) := R
     have hWB := R.bk.ltW
     have y4 : IntKind.i64.wrap ((q : Int) + 1) = (q : Int) + 1 := wrap_id (by omega) (by omega)
     have y5 : (q : Int) < 4 := by omega
     have HO : Hid (wr.ownsRow 0 26 1 (.slice ia (sh2 0).ls.length ic) (sh2 0).ls.length (sh2 0).ls) := oI
     have HN : Hid (n' = k + q) := hn2
     clear eI eM oI oM R hn2
     go_wp2_with (at_builtin; refine wpList_append_where _ (by rfl) (.tmp 38) (.tmp 40) 25 (by rfl) 0 26 iI (.slice none 0 0) 1 24 Tryz.underlying25 hiI hzI hsI hbI rfl (by decide) _ _ _ (by rfl) (own_below HO.out (below1 _ _)) ⟨wr.heap.size, 0, none⟩ 1 1 [.slice la n' lc] (by rfl) rfl ?c1 ?c2 (by decide) ?c3 ?c4 ?c5 (wr.heap.size + 1) ?c6 ?_)
     case c1 => exact cell_one_new _ _ _
     case c2 => intro u hu; simp at hu; subst hu; rfl
     case c3 => unfold maxLen; omega
     case c4 => omega
     case c5 => exact Nat.zero_le _
     case c6 => simp
     ·intro g2 cap2 w3 hown3 hat3 hlt3
      have hbh := HR.out.bk.behind (v := .slice ia (sh2 0).ls.length ic) (fun g hg => by have := (HR.out.bk.she 0 (by decide)).inL g (by rw [HI.out]; exact hg); omega) hat3
      have d1 := (hbh 1).1.trans b1
      have d2 := (hbh 2).1.trans b2
      have f1 := (hbh 1).2
      obtain ⟨tag4, sh4, R4, hls4, hms4, hvM4⟩ := HR.out.L (by decide) HL2.out hown3 (by rw [HI.out]; exact hat3)
      simp only [Nat.mul_zero, Nat.add_zero] at R4
      have hsz : (w3.setCell ⟨WB, 1, none⟩ (.slice (some ⟨g2, 0, none⟩) ((sh2 0).ls.length + 1) cap2)).heap.size = w3.heap.size := by simp
      have o4 := (R4.bk.she 0 (by decide)).ownM
      rw [hvM4, hms4, HM.out] at o4
      have HO4 : Hid ((w3.setCell ⟨WB, 1, none⟩ (.slice (some ⟨g2, 0, none⟩) ((sh2 0).ls.length + 1) cap2)).ownsRow 0 3 1 (.slice ma (sh2 0).ms.length mc) (sh2 0).ms.length ((sh2 0).ms.map (.int .i64))) := o4
      have HR4 : Hid (Rnd W1 tag1 WB 0 v0 sh (nk + 1) m q n' (.slice la n' lc) (w3.setCell ⟨WB, 1, none⟩ (.slice (some ⟨g2, 0, none⟩) ((sh2 0).ls.length + 1) cap2)) tag4 sh4) := R4
      have HE4 : Hid ((sh4 0).ls = (sh2 0).ls ++ [.slice la n' lc] ∧ (sh4 0).ms = (sh2 0).ms ∧ (sh4 0).vM = (sh2 0).vM) := ⟨hls4, hms4, hvM4⟩
      have hWB3 : WB < w3.heap.size := by have := R4.bk.ltW; omega
      have hn1 := cell_one_new (w3.setCell ⟨WB, 1, none⟩ (.slice (some ⟨g2, 0, none⟩) ((sh2 0).ls.length + 1) cap2)) (.int .i64 m) 3
      rw [hsz] at hn1
      have HSZ : Hid ((w3.setCell ⟨WB, 1, none⟩ (.slice (some ⟨g2, 0, none⟩) ((sh2 0).ls.length + 1) cap2)).heap.size = w3.heap.size) := hsz
      have HN1 : Hid (∀ j u, [Value.int .i64 m][j]? = some u → ((w3.setCell ⟨WB, 1, none⟩ (.slice (some ⟨g2, 0, none⟩) ((sh2 0).ls.length + 1) cap2)).alloc (.cells #[.int .i64 m] 3)).cell? ((⟨w3.heap.size, 0, none⟩ : Addr).add j) = some u) := hn1
      clear hbh R4 hls4 hms4 hvM4 o4 hown3 hat3 b1 b2 HR HO hn1 hsz
      go_wp2_with (at_builtin; refine wpList_append_where _ (by rfl) (.tmp 48) (.tmp 50) 26 (by rfl) 0 3 i0 (.int .i64 0) 1 8 Tryz.underlying26 hi0 hz0 hs0 hb0 rfl (by decide) _ _ _ (by rfl) (own_below HO4.out (below1 _ _)) ⟨w3.heap.size, 0, none⟩ 1 1 [.int .i64 m] (by rfl) rfl HN1.out ?c2 (by decide) ?c3 ?c4 ?c5 (w3.heap.size + 1) ?c6 ?_)
      case c2 => intro u hu; simp at hu; subst hu; rfl
      case c3 => unfold maxLen; omega
      case c4 => omega
      case c5 => exact Nat.zero_le _
      case c6 => simp
      ·intro g3 cap3 w5 hown5 hat5 hlt5
       rw [← HSZ.out] at hat5
       have hbh := HR4.out.bk.behind (v := .slice ma (sh2 0).ms.length mc) (fun g hg => by have := (HR4.out.bk.she 0 (by decide)).inM g (by rw [HE4.out.2.2, HM.out]; exact hg); omega) hat5
       have f2 := (hbh 2).2
       have d2' : w5.cell? ⟨WB, 2, none⟩ = some (.slice ma (sh2 0).ms.length mc) := by
        rw [(hbh 2).1, HR4.out.bk.cells.2.2.1, HE4.out.2.2, HM.out]
       obtain ⟨e4a, e4b, e4c⟩ := HE4.out
       obtain ⟨tag6, sh6, R6, hlen6⟩ := HR4.out.M (w3 := w5) (g2 := g3) (cap2 := cap3) (by decide) e4a (by rw [e4b]; exact HL2.out) (by rw [e4b]; exact hown5) (by rw [e4c, HM.out]; exact hat5)
       rw [e4b] at R6
       simp only [Nat.mul_zero, Nat.add_zero] at R6
       have hsz6 : (w5.setCell ⟨WB, 2, none⟩ (.slice (some ⟨g3, 0, none⟩) ((sh2 0).ms.length + 1) cap3)).heap.size = w5.heap.size := by simp
       have hn6 := cell_one_new (w5.setCell ⟨WB, 2, none⟩ (.slice (some ⟨g3, 0, none⟩) ((sh2 0).ms.length + 1) cap3)) (.int .i64 m) 3
       rw [hsz6] at hn6
       have hWB5 : WB < w5.heap.size := by have := R6.bk.ltW; omega
       have o6 := R6.hand.own
       have HO6 : Hid ((w5.setCell ⟨WB, 2, none⟩ (.slice (some ⟨g3, 0, none⟩) ((sh2 0).ms.length + 1) cap3)).ownsRow 0 3 1 (.slice la n' lc) n' (List.replicate (n' * szf 0) (.int .i64 m))) := o6
       have HR6 : Hid (Rnd W1 tag1 WB 0 v0 sh (nk + 1) m (q + 1) n' (.slice la n' lc) (w5.setCell ⟨WB, 2, none⟩ (.slice (some ⟨g3, 0, none⟩) ((sh2 0).ms.length + 1) cap3)) tag6 sh6) := R6
       have HLEN6 : Hid ((sh6 0).ls.length = (sh6 0).ms.length) := hlen6
       have HSZ6 : Hid ((w5.setCell ⟨WB, 2, none⟩ (.slice (some ⟨g3, 0, none⟩) ((sh2 0).ms.length + 1) cap3)).heap.size = w5.heap.size) := hsz6
       have HN6 : Hid (∀ j u, [Value.int .i64 m][j]? = some u → ((w5.setCell ⟨WB, 2, none⟩ (.slice (some ⟨g3, 0, none⟩) ((sh2 0).ms.length + 1) cap3)).alloc (.cells #[.int .i64 m] 3)).cell? ((⟨w5.heap.size, 0, none⟩ : Addr).add j) = some u) := hn6
       clear hbh R6 hlen6 e4a e4b e4c hown5 hat5 HR4 HO4 HE4 hn6 hsz6 o6 d1 d2 f1 HSZ HN1
       go_wp2_with (at_builtin; refine wpList_append_where _ (by rfl) (.tmp 54) (.tmp 56) 26 (by rfl) 0 3 i0 (.int .i64 0) 1 8 Tryz.underlying26 hi0 hz0 hs0 hb0 rfl (by decide) _ _ _ (by rfl) (own_below HO6.out (below1 _ _)) ⟨w5.heap.size, 0, none⟩ 1 1 [.int .i64 m] (by rfl) rfl HN6.out ?c2 (by decide) ?c3 ?c4 ?c5 (w5.heap.size + 1) ?c6 ?_)
       case c2 => intro u hu; simp at hu; subst hu; rfl
       case c3 => unfold maxLen; omega
       case c4 => omega
       case c5 => exact Nat.zero_le _
       case c6 => simp
       ·intro g4 cap4 w7 hown7 hat7 hlt7
        rw [← HSZ6.out] at hat7
        obtain ⟨tag8, R8⟩ := HR6.out.E (w3 := w7) (g2 := g4) (cap2 := cap4) (by decide) hown7 hat7
        have HR8 : Hid (RndE W1 tag1 WB 0 v0 sh (nk + 1) m (q + 1) k (.slice (some ⟨g4, 0, none⟩) (n' + 1) cap4) w7) := ⟨n' + 1, tag8, sh6, R8, HLEN6.out, by have := HN.out; omega⟩
        clear HR6 HO6 R8 hown7 hat7 d2' f2 HN6 HSZ6
        go_wp2
        go_roundw
        case rel => exact ⟨q + 1, by omega, by go_num, HR8.out⟩
        case measure => simp [intOf]; omega
    ·have : q = 4 := by omega
     subst this
     have HR : Hid (Wrote 0 WB v0 tag sh nk (.slice va k vc) w wr) := R.wrote HL2.out HLEN.out.1 HC1.out HT1.out
     clear R
     go_wp2
     go_end0
     exact ⟨rfl, HR.out⟩
end Go.Proofs.YtgpapegpdfonpaaGreatDoor

namespace Go.Proofs.YtgpapegpdfonpaaGreatDoor
open Go.RowKit
attribute [local go_sem ↓] Go.wp_at_zero Go.wp_at_succ
theorem infoSl1 : (Tryz.prog.info? 42).map (fun i => (i.zero, i.size, i.bytes)) = some (some (.slice none 0 0), 1, 24) := by kernel_rfl
theorem infoE1 : (Tryz.prog.info? 53).map (fun i => (i.zero, i.size, i.bytes)) = some (some (.agg #[.int .i64 0, .int .i64 0, .int .i64 0]), 3, 24) := by kernel_rfl
theorem cell_new3 (w : World) (v : Value) (t : TypeId) : ∀ j u, [v, v, v][j]? = some u → (w.alloc (.cells #[v, v, v] t)).cell? ((⟨w.heap.size, 0, none⟩ : Addr).add j) = some u := by
 intro j u hj
 have hadd : (⟨w.heap.size, 0, none⟩ : Addr).add j = ⟨w.heap.size, j, none⟩ := by unfold Addr.add; split <;> simp_all
 rw [hadd]
 have e := heap_alloc_new w (.cells #[v, v, v] t)
 simp only [World.cell?, e]
 simpa using hj
theorem grown_same {a b c : World} {g : Nat} (h : a.grownBy b (some g)) (k : b.grownBy c (some g)) : a.grownBy c (some g) :=
 ⟨k.os.trans h.os, k.tape.trans h.tape, k.output.trans h.output, Nat.le_trans h.size k.size, fun i hi hne => (k.block i (Nat.lt_of_lt_of_le hi h.size) hne).trans (h.block i hi hne)⟩
set_option maxHeartbeats 4000000 in
theorem btris_any (WB nk n : Nat) (v0 v : Value) (tag : Nat → Nat) (sh : Nat → Sh) (xs : List Value) (w : World) (h : Bk w WB v0 tag sh nk) (hlen : (sh 1).ls.length = (sh 1).ms.length) (hl : (sh 1).ls.length ≤ 3703618117000) (hk : nk ≤ 1851809059000)
  (hv : w.ownsRow 0 53 3 v n xs) (hn : n ≤ 5000000000000) (hf : ∀ g, v.ownBlock = some g → tag g = 0 ∧ WB < g) :
  Calls Tryz.prog 50 #[.pointer (some ⟨WB, 1, none⟩), v] w fun e w' => e = .returned (.tuple #[]) ∧ Wrote 1 WB v0 tag sh nk v w w' := by
 have b7 := h.cells.2.2.2.2.2.2.2
 have f7 := h.frozen 7
 have x0 : IntKind.i64.wrap ((nk : Int) + 1) = (nk : Int) + 1 := wrap_id (by omega) (by omega)
 have x1 : IntKind.i64.wrap (-1000 - ((nk : Int) + 1)) = -1000 - ((nk : Int) + 1) := wrap_id (by omega) (by omega)
 obtain ⟨hB1, hC1⟩ := h.bump
 have hWb : ∀ g, v.ownBlock = some g → g ≠ WB := fun g hg e => by have := (hf g hg).2; omega
 have hv1 : (w.setCell ⟨WB, 7, none⟩ (.int .i64 ((nk : Int) + 1))).ownsRow 0 53 3 v n xs := ownS_keep hv fun g hg => hC1.far g (ownS_lt hv hg) (hWb g hg)
 have hC : Chg (fun k => k = WB ∨ some k = v.ownBlock) w (w.setCell ⟨WB, 7, none⟩ (.int .i64 ((nk : Int) + 1))) := hC1.mono fun k _ e => .inl e
 obtain ⟨va, vc, rfl⟩ := ownS_any hv
 have hxs : xs.length = n * 3 := hv.1
 have HF : Hid (∀ g, (Value.slice va n vc).ownBlock = some g → tag g = 0 ∧ WB < g) := hf
 have HLEN : Hid ((sh 1).ls.length = (sh 1).ms.length ∧ (sh 1).ls.length ≤ 3703618117000) := ⟨hlen, hl⟩
 obtain ⟨iI, hiI, hzI, hsI, hbI⟩ := info_parts infoSl1
 obtain ⟨i0, hi0, hz0, hs0, hb0⟩ := info_parts info3
 obtain ⟨iE, hiE, hzE, hsE, hbE⟩ := info_parts infoE1
 clear h hv hC1 hWb hf hlen hl
 go_enter Tryz.func50, Tryz.ntmps50
 go_wp2
 generalize hW : w.setCell ⟨WB, 7, none⟩ (.int .i64 ((nk : Int) + 1)) = W at *
 clear hW b7 f7 x0 x1
 generalize -1000 - ((nk : Int) + 1) = m at *
 go_loopw [5] (fun i wr => ∃ k : Nat, k ≤ n ∧ i = .int .i64 k ∧ Bk wr WB v0 tag sh (nk + 1) ∧ wr.ownsRow 0 53 3 (.slice va n vc) n (List.replicate (k * 3) (.int .i64 m) ++ xs.drop (k * 3)) ∧ Chg (fun k => k = WB ∨ some k = (Value.slice va n vc).ownBlock) w wr) (fun i _ => n - (intOf i).toNat)
 case atStart => exact ⟨0, by omega, rfl, hB1, by simpa using hv1, hC⟩
 case round =>
  clear hB1 hC hv1
  obtain ⟨k, hkn, rfl, hB, hv, hC⟩ := hrel
  by_cases hlt : k < n
  ·obtain ⟨g, rfl, hg, c0⟩ := ownS_place hv (by omega)
   have f0 := hv.frozenAt (k * 3)
   have f1 := hv.frozenAt (k * 3 + 1)
   have f2 := hv.frozenAt (k * 3 + 2)
   obtain ⟨hv1, hgr1⟩ := hv.stored (k * 3) (.int .i64 m)
   rw [fill_set (by omega)] at hv1
   obtain ⟨hv2, hgr2⟩ := hv1.stored (k * 3 + 1) (.int .i64 m)
   rw [fill_set (by omega)] at hv2
   obtain ⟨hv3, hgr3⟩ := hv2.stored (k * 3 + 2) (.int .i64 m)
   rw [fill_set (by omega)] at hv3
   have hgr := (grown_same (grown_same hgr1 hgr2) hgr3)
   have hB' := hB.fill (HF.out g rfl).1 hgr
   have HB : Hid (Bk (((wr.setCell ⟨g, k * 3, none⟩ (.int .i64 m)).setCell ⟨g, k * 3 + 1, none⟩ (.int .i64 m)).setCell ⟨g, k * 3 + 2, none⟩ (.int .i64 m)) WB v0 tag sh (nk + 1)) := hB'
   have HV : Hid ((((wr.setCell ⟨g, k * 3, none⟩ (.int .i64 m)).setCell ⟨g, k * 3 + 1, none⟩ (.int .i64 m)).setCell ⟨g, k * 3 + 2, none⟩ (.int .i64 m)).ownsRow 0 53 3 (.slice (some ⟨g, 0, none⟩) n vc) n (List.replicate ((k + 1) * 3) (.int .i64 m) ++ xs.drop ((k + 1) * 3))) := by
    have e : (k + 1) * 3 = k * 3 + 3 := by omega
    rw [e]
    exact hv3
   have HK : Hid (Chg (fun k => k = WB ∨ some k = (Value.slice (some ⟨g, 0, none⟩) n vc).ownBlock) w (((wr.setCell ⟨g, k * 3, none⟩ (.int .i64 m)).setCell ⟨g, k * 3 + 1, none⟩ (.int .i64 m)).setCell ⟨g, k * 3 + 2, none⟩ (.int .i64 m))) := hC.trans (Chg.of_grown (F := fun k => k = g) hgr fun k hk => by cases hk; rfl) fun k _ e => .inr (by rw [e]; rfl)
   have hex : ∀ i, i < 3 → ∃ u, wr.cell? ⟨g, k * 3 + i, none⟩ = some u := fun i hi => by
    rw [c0 _ (by omega)]
    have : k * 3 + i < (List.replicate (k * 3) (Value.int .i64 m) ++ xs.drop (k * 3)).length := by simp; omega
    exact ⟨_, List.getElem?_eq_getElem this⟩
   obtain ⟨u0, c10⟩ := hex 0 (by omega)
   obtain ⟨u1, c11⟩ := hex 1 (by omega)
   obtain ⟨u2, c12⟩ := hex 2 (by omega)
   simp only [Nat.add_zero] at c10
   have y0 : (0 : Int) ≤ (k : Int) := by omega
   have y1 : (k : Int) < (n : Int) := by omega
   have y4 : IntKind.i64.wrap ((k : Int) + 1) = (k : Int) + 1 := wrap_id (by omega) (by omega)
   clear hB hv hC hB' hgr c0 hex hv1 hgr1 hv2 hgr2 hv3 hgr3
   go_wp2
   go_roundw
   case rel => exact ⟨k + 1, by omega, by go_num, HB.out, HV.out, HK.out⟩
   case measure => simp [intOf]; omega
  ·have ek : k = n := by omega
   subst ek
   have hv2 : wr.ownsRow 0 (tEf 1) (szf 1) (.slice va k vc) k (List.replicate (k * szf 1) (.int .i64 m)) := by
    rw [List.drop_eq_nil_of_le (by omega), List.append_nil] at hv
    exact hv
   obtain ⟨tag1, ht1, hB1, hH1⟩ := hB.take (xs := []) (j := 1) (by decide) hv2 HF.out
   have HT1 : Hid (∀ k', some k' ≠ (Value.slice va k vc).ownBlock → tag1 k' = tag k') := ht1
   have HC1 : Hid (Chg (fun k' => k' = WB ∨ some k' = (Value.slice va k vc).ownBlock) w wr) := hC
   have HR1 : Hid (RndE wr tag1 WB 1 v0 sh (nk + 1) m 0 k (.slice va k vc) wr) := ⟨k, tag1, sh, Rnd.start hB1 hH1, HLEN.out.1, rfl⟩
   clear hv hv2 hB hC ht1 hB1 hH1 HF
   go_wp2
   generalize wr = W1 at *
   go_loopw [1, 6] (fun vl i wr => ∃ q : Nat, q ≤ 4 ∧ i = .int .i64 q ∧ RndE W1 tag1 WB 1 v0 sh (nk + 1) m q k vl wr) (fun _ i _ => 4 - (intOf i).toNat)
   case atStart => exact ⟨0, by omega, rfl, HR1.out⟩
   case round =>
    clear HR1
    obtain ⟨q, hq, rfl, n', tag2, sh2, R, hlen2, hn2⟩ := hrel
    have hmsl := R.msl
    have HL2 : Hid ((sh2 1).ls.length = (sh2 1).ms.length) := hlen2
    have hb8 : (sh2 1).ls.length + 1 ≤ 3703618118000 := by have := HLEN.out; omega
    have hm8 : (sh2 1).ms.length + 1 ≤ 3703618118000 := by omega
    have hn8 : n' + 1 ≤ 5000000000010 := by omega
    clear hlen2 hmsl
    by_cases hq4 : q < 4
    ·obtain ⟨ia, ic, ma, mc, eI, eM, oI, oM⟩ := R.bk.forms 1 (by decide)
     obtain ⟨la, lc, rfl⟩ := ownS_any R.hand.own
     obtain ⟨_, _, _, b1, b2, _⟩ := R.bk.cells
     rw [eI] at b1
     rw [eM] at b2
     have HI : Hid ((sh2 1).vL = .slice ia (sh2 1).ls.length ic) := eI
     have HM : Hid ((sh2 1).vM = .slice ma (sh2 1).ms.length mc) := eM
     have HR : Hid (Rnd W1 tag1 WB 1 v0 sh (nk + 1) m q n' (.slice la n' lc) wr tag2 sh2) := R
     have hWB := R.bk.ltW
     have y4 : IntKind.i64.wrap ((q : Int) + 1) = (q : Int) + 1 := wrap_id (by omega) (by omega)
     have y5 : (q : Int) < 4 := by omega
     have HO : Hid (wr.ownsRow 0 42 1 (.slice ia (sh2 1).ls.length ic) (sh2 1).ls.length (sh2 1).ls) := oI
     have HN : Hid (n' = k + q) := hn2
     clear eI eM oI oM R hn2
     go_wp2_with (at_builtin; refine wpList_append_where _ (by rfl) (.tmp 41) (.tmp 43) 27 (by rfl) 0 42 iI (.slice none 0 0) 1 24 Tryz.underlying27 hiI hzI hsI hbI rfl (by decide) _ _ _ (by rfl) (own_below HO.out (below1 _ _)) ⟨wr.heap.size, 0, none⟩ 1 1 [.slice la n' lc] (by rfl) rfl ?c1 ?c2 (by decide) ?c3 ?c4 ?c5 (wr.heap.size + 1) ?c6 ?_)
     case c1 => exact cell_one_new _ _ _
     case c2 => intro u hu; simp at hu; subst hu; rfl
     case c3 => unfold maxLen; omega
     case c4 => omega
     case c5 => exact Nat.zero_le _
     case c6 => simp
     ·intro g2 cap2 w3 hown3 hat3 hlt3
      have hbh := HR.out.bk.behind (v := .slice ia (sh2 1).ls.length ic) (fun g hg => by have := (HR.out.bk.she 1 (by decide)).inL g (by rw [HI.out]; exact hg); omega) hat3
      have d1 := (hbh 3).1.trans b1
      have d2 := (hbh 4).1.trans b2
      have f1 := (hbh 3).2
      obtain ⟨tag4, sh4, R4, hls4, hms4, hvM4⟩ := HR.out.L (by decide) HL2.out hown3 (by rw [HI.out]; exact hat3)
      simp only [Nat.reduceMul, Nat.reduceAdd] at R4
      have hsz : (w3.setCell ⟨WB, 3, none⟩ (.slice (some ⟨g2, 0, none⟩) ((sh2 1).ls.length + 1) cap2)).heap.size = w3.heap.size := by simp
      have o4 := (R4.bk.she 1 (by decide)).ownM
      rw [hvM4, hms4, HM.out] at o4
      have HO4 : Hid ((w3.setCell ⟨WB, 3, none⟩ (.slice (some ⟨g2, 0, none⟩) ((sh2 1).ls.length + 1) cap2)).ownsRow 0 3 1 (.slice ma (sh2 1).ms.length mc) (sh2 1).ms.length ((sh2 1).ms.map (.int .i64))) := o4
      have HR4 : Hid (Rnd W1 tag1 WB 1 v0 sh (nk + 1) m q n' (.slice la n' lc) (w3.setCell ⟨WB, 3, none⟩ (.slice (some ⟨g2, 0, none⟩) ((sh2 1).ls.length + 1) cap2)) tag4 sh4) := R4
      have HE4 : Hid ((sh4 1).ls = (sh2 1).ls ++ [.slice la n' lc] ∧ (sh4 1).ms = (sh2 1).ms ∧ (sh4 1).vM = (sh2 1).vM) := ⟨hls4, hms4, hvM4⟩
      have hWB3 : WB < w3.heap.size := by have := R4.bk.ltW; omega
      have hn1 := cell_one_new (w3.setCell ⟨WB, 3, none⟩ (.slice (some ⟨g2, 0, none⟩) ((sh2 1).ls.length + 1) cap2)) (.int .i64 m) 3
      rw [hsz] at hn1
      have HSZ : Hid ((w3.setCell ⟨WB, 3, none⟩ (.slice (some ⟨g2, 0, none⟩) ((sh2 1).ls.length + 1) cap2)).heap.size = w3.heap.size) := hsz
      have HN1 : Hid (∀ j u, [Value.int .i64 m][j]? = some u → ((w3.setCell ⟨WB, 3, none⟩ (.slice (some ⟨g2, 0, none⟩) ((sh2 1).ls.length + 1) cap2)).alloc (.cells #[.int .i64 m] 3)).cell? ((⟨w3.heap.size, 0, none⟩ : Addr).add j) = some u) := hn1
      clear hbh R4 hls4 hms4 hvM4 o4 hown3 hat3 b1 b2 HR HO hn1 hsz
      go_wp2_with (at_builtin; refine wpList_append_where _ (by rfl) (.tmp 51) (.tmp 53) 26 (by rfl) 0 3 i0 (.int .i64 0) 1 8 Tryz.underlying26 hi0 hz0 hs0 hb0 rfl (by decide) _ _ _ (by rfl) (own_below HO4.out (below1 _ _)) ⟨w3.heap.size, 0, none⟩ 1 1 [.int .i64 m] (by rfl) rfl HN1.out ?c2 (by decide) ?c3 ?c4 ?c5 (w3.heap.size + 1) ?c6 ?_)
      case c2 => intro u hu; simp at hu; subst hu; rfl
      case c3 => unfold maxLen; omega
      case c4 => omega
      case c5 => exact Nat.zero_le _
      case c6 => simp
      ·intro g3 cap3 w5 hown5 hat5 hlt5
       rw [← HSZ.out] at hat5
       have hbh := HR4.out.bk.behind (v := .slice ma (sh2 1).ms.length mc) (fun g hg => by have := (HR4.out.bk.she 1 (by decide)).inM g (by rw [HE4.out.2.2, HM.out]; exact hg); omega) hat5
       have f2 := (hbh 4).2
       have d2' : w5.cell? ⟨WB, 4, none⟩ = some (.slice ma (sh2 1).ms.length mc) := by
        rw [(hbh 4).1, HR4.out.bk.cells.2.2.2.2.1, HE4.out.2.2, HM.out]
       obtain ⟨e4a, e4b, e4c⟩ := HE4.out
       obtain ⟨tag6, sh6, R6, hlen6⟩ := HR4.out.M (w3 := w5) (g2 := g3) (cap2 := cap3) (by decide) e4a (by rw [e4b]; exact HL2.out) (by rw [e4b]; exact hown5) (by rw [e4c, HM.out]; exact hat5)
       rw [e4b] at R6
       simp only [Nat.reduceMul, Nat.reduceAdd] at R6
       have hsz6 : (w5.setCell ⟨WB, 4, none⟩ (.slice (some ⟨g3, 0, none⟩) ((sh2 1).ms.length + 1) cap3)).heap.size = w5.heap.size := by simp
       have hn6 := cell_new3 (w5.setCell ⟨WB, 4, none⟩ (.slice (some ⟨g3, 0, none⟩) ((sh2 1).ms.length + 1) cap3)) (.int .i64 m) 53
       rw [hsz6] at hn6
       have hWB5 : WB < w5.heap.size := by have := R6.bk.ltW; omega
       have o6 := R6.hand.own
       have HO6 : Hid ((w5.setCell ⟨WB, 4, none⟩ (.slice (some ⟨g3, 0, none⟩) ((sh2 1).ms.length + 1) cap3)).ownsRow 0 53 3 (.slice la n' lc) n' (List.replicate (n' * szf 1) (.int .i64 m))) := o6
       have HR6 : Hid (Rnd W1 tag1 WB 1 v0 sh (nk + 1) m (q + 1) n' (.slice la n' lc) (w5.setCell ⟨WB, 4, none⟩ (.slice (some ⟨g3, 0, none⟩) ((sh2 1).ms.length + 1) cap3)) tag6 sh6) := R6
       have HLEN6 : Hid ((sh6 1).ls.length = (sh6 1).ms.length) := hlen6
       have HSZ6 : Hid ((w5.setCell ⟨WB, 4, none⟩ (.slice (some ⟨g3, 0, none⟩) ((sh2 1).ms.length + 1) cap3)).heap.size = w5.heap.size) := hsz6
       have HN6 : Hid (∀ j u, [Value.int .i64 m, .int .i64 m, .int .i64 m][j]? = some u → ((w5.setCell ⟨WB, 4, none⟩ (.slice (some ⟨g3, 0, none⟩) ((sh2 1).ms.length + 1) cap3)).alloc (.cells #[.int .i64 m, .int .i64 m, .int .i64 m] 53)).cell? ((⟨w5.heap.size, 0, none⟩ : Addr).add j) = some u) := hn6
       clear hbh R6 hlen6 e4a e4b e4c hown5 hat5 HR4 HO4 HE4 hn6 hsz6 o6 d1 d2 f1 HSZ HN1
       go_wp2_with (at_builtin; refine wpList_append_where _ (by rfl) (.tmp 57) (.tmp 62) 42 (by rfl) 0 53 iE (.agg #[.int .i64 0, .int .i64 0, .int .i64 0]) 3 24 Tryz.underlying42 hiE hzE hsE hbE rfl (by decide) _ _ _ (by rfl) (ownB_below HO6.out (below1 _ _)) ⟨w5.heap.size, 0, none⟩ 1 1 [.int .i64 m, .int .i64 m, .int .i64 m] (by rfl) rfl HN6.out ?c2 (by decide) ?c3 ?c4 ?c5 (w5.heap.size + 1) ?c6 ?_)
       case c2 => intro u hu; simp at hu; subst hu; rfl
       case c3 => unfold maxLen; omega
       case c4 => omega
       case c5 => exact Nat.zero_le _
       case c6 => simp
       ·intro g4 cap4 w7 hown7 hat7 hlt7
        rw [← HSZ6.out] at hat7
        obtain ⟨tag8, R8⟩ := HR6.out.E (w3 := w7) (g2 := g4) (cap2 := cap4) (by decide) hown7 hat7
        have HR8 : Hid (RndE W1 tag1 WB 1 v0 sh (nk + 1) m (q + 1) k (.slice (some ⟨g4, 0, none⟩) (n' + 1) cap4) w7) := ⟨n' + 1, tag8, sh6, R8, HLEN6.out, by have := HN.out; omega⟩
        clear HR6 HO6 R8 hown7 hat7 d2' f2 HN6 HSZ6
        go_wp2
        go_roundw
        case rel => exact ⟨q + 1, by omega, by go_num, HR8.out⟩
        case measure => simp [intOf]; omega
    ·have : q = 4 := by omega
     subst this
     have HR : Hid (Wrote 1 WB v0 tag sh nk (.slice va k vc) w wr) := R.wrote HL2.out HLEN.out.1 HC1.out HT1.out
     clear R
     go_wp2
     go_end0
     exact ⟨rfl, HR.out⟩
end Go.Proofs.YtgpapegpdfonpaaGreatDoor
