/-
  The statement's book: Book.ints walked.
-/
import Derived.Test.YtgpapegpdfonpaaGreatDoorLawC
namespace Go.Proofs.YtgpapegpdfonpaaGreatDoor
set_option linter.unusedVariables false
set_option linter.unusedSimpArgs false
open Go.RowKit
attribute [local go_sem ↓] Go.wp_at_zero Go.wp_at_succ

theorem infoSl : (Tryz.prog.info? 26).map (fun i => (i.zero, i.size, i.bytes)) = some (some (.slice none 0 0), 1, 24) := by kernel_rfl

section
variable {w w3 : World} {WB g2 cap2 nk : Nat} {vI vM : Value} {ls : List Value} {ms : List Int} {o : Obj}
theorem Book.bump (h : Book w WB vI vM ls ms nk) : Book (w.setCell ⟨WB, 7, none⟩ (.int .i64 ((nk : Int) + 1))) WB vI vM ls ms (nk + 1) ∧ Kept WB w (w.setCell ⟨WB, 7, none⟩ (.int .i64 ((nk : Int) + 1))) ∧
    ∀ k, k ≠ WB → (w.setCell ⟨WB, 7, none⟩ (.int .i64 ((nk : Int) + 1))).heap[k]? = w.heap[k]? := by
  have far : ∀ k, k ≠ WB → (w.setCell ⟨WB, 7, none⟩ (.int .i64 ((nk : Int) + 1))).heap[k]? = w.heap[k]? := fun k hk => Below.heap_setCell _ _ _ _ hk
  refine ⟨⟨?_, ?_, ?_, ?_⟩, ⟨rfl, rfl, rfl, by simp, fun k hk => far k (by omega), fun k cs t hk t1 t2 t3 => far k (typ_ne hk h.blk t1)⟩, far⟩
  · rw [heap_setCell_same w WB 7 _ _ _ h.blk]; rfl
  · exact own_keep h.ownI fun g hg => far g (by have := (own_typ h.ownI hg).1; omega)
  · exact own_keep h.ownM fun g hg => far g (by have := (own_typ h.ownM hg).1; omega)
  · exact fun e he => (h.ent e he).keep fun g cur _ _ hB hne hh => ⟨far g (by omega), hne⟩
theorem Book.fill {g n cap : Nat} {xs : List Value} (h : Book w WB vI vM ls ms nk) (hvl : w.ownsRow (WB + 1) 3 1 (.slice (some ⟨g, 0, none⟩) n cap) n xs) (hs : ∀ m, Shares vM ls ms (.slice (some ⟨g, 0, none⟩) n cap) 0 m) (k : Nat) (u : Value) :
    Book (w.setCell ⟨g, k, none⟩ u) WB vI vM ls ms nk ∧ Kept WB w (w.setCell ⟨g, k, none⟩ u) := by
  obtain ⟨hB, cur, hh⟩ := own_typ hvl (g := g) rfl
  have far : ∀ k', k' ≠ g → (w.setCell ⟨g, k, none⟩ u).heap[k']? = w.heap[k']? := fun k' hk => Below.heap_setCell _ _ _ _ hk
  refine ⟨h.stay fun k' cs t hk ht => far k' fun e => ?_, rfl, rfl, rfl, by simp, fun k hk => far k (by omega), fun k cs t hk t1 t2 t3 => far k (typ_ne hk hh t3)⟩
  subst e
  rcases ht with rfl | rfl | ⟨rfl, hM | ⟨e, he, h1, h2⟩⟩
  · exact typ_ne hk hh (by decide) rfl
  · exact typ_ne hk hh (by decide) rfl
  · exact (hs 0 k' rfl).1 hM.symm
  · have := ((hs 0 k' rfl).2 e he h1 h2).2; omega
theorem Book.blk3 {v : Value} (h : Book w WB vI vM ls ms nk) (hv : ∀ g, v.ownBlock = some g → WB < g) (hat : (v.ownBlock = some g2 ∧ (w.alloc o).grownBy w3 (some g2)) ∨ (g2 = w.heap.size + 1 ∧ (w.alloc o).grownBy w3 none)) :
    w3.cell? ⟨WB, 1, none⟩ = some vI ∧ w3.cell? ⟨WB, 2, none⟩ = some vM ∧ w3.frozen? ⟨WB, 1, none⟩ = false ∧ w3.frozen? ⟨WB, 2, none⟩ = false := by
  have hb := (grown_at hat).2.2.2.2 WB h.lt fun e => by have := hv WB e.symm; omega
  have hb' : w3.heap[WB]? = some (.cells (bookCells vI vM nk) 32 (0, 0)) := by rw [hb]; exact h.blk
  simp [World.cell?, World.frozen?, hb', bookCells]
end

theorem fill_set {xs : List Value} {k : Nat} {u : Value} (h : k < xs.length) : (List.replicate k u ++ xs.drop k).set k u = List.replicate (k + 1) u ++ xs.drop (k + 1) := by
  rw [List.set_append_right _ _ (by simp), List.length_replicate, Nat.sub_self, List.replicate_succ', List.append_assoc]
  congr 1
  rw [List.drop_eq_getElem_cons h]
  rfl
theorem Shares.any {vM vl : Value} {ls : List Value} {ms : List Int} (h : ∀ m, Shares vM ls ms vl 0 m) (n : Nat) (m : Int) : Shares vM ls ms vl n m := fun g hg =>
  ⟨((h m) g hg).1, fun e he h1 h2 => ⟨(((h m) g hg).2 e he h1 h2).1, by have := (((h m) g hg).2 e he h1 h2).2; omega⟩⟩

set_option maxHeartbeats 4000000 in
theorem ints_any (WB : Nat) (vI vM : Value) (ls : List Value) (ms : List Int) (nk : Nat) (v : Value) (n : Nat) (xs : List Value) (w : World) (h : Book w WB vI vM ls ms nk) (hlen : ls.length = ms.length) (hl : ls.length ≤ 3703618116000) (hk : nk ≤ 925904529000)
    (hv : w.ownsRow (WB + 1) 3 1 v n xs) (hn : n ≤ 60) (hs : ∀ m, Shares vM ls ms v 0 m) :
    Calls Tryz.prog 46 #[.pointer (some ⟨WB, 1, none⟩), v] w fun e w' => e = .returned (.tuple #[]) ∧ ∃ vI' vM' ls' ms', Book w' WB vI' vM' ls' ms' (nk + 1) ∧ ls'.length = ms'.length ∧ ls'.length = ls.length + 4 ∧ Kept WB w w' := by
  obtain ⟨_, b1, b2, b3, b5, b7⟩ := h.cells
  have f7 := h.frozen 7
  have x0 : IntKind.i64.wrap ((nk : Int) + 1) = (nk : Int) + 1 := wrap_id (by omega) (by omega)
  have x1 : IntKind.i64.wrap (-1000 - ((nk : Int) + 1)) = -1000 - ((nk : Int) + 1) := wrap_id (by omega) (by omega)
  obtain ⟨hB1, hK1, hfar⟩ := h.bump
  have hv1 : (w.setCell ⟨WB, 7, none⟩ (.int .i64 ((nk : Int) + 1))).ownsRow (WB + 1) 3 1 v n xs := own_keep hv fun g hg => hfar g (by have := (own_typ hv hg).1; omega)
  obtain ⟨va, vc, rfl⟩ := own_anyW hv
  have hxs : xs.length = n := by have := hv.1; omega
  have HS : Hid (∀ m, Shares vM ls ms (.slice va n vc) 0 m) := hs
  obtain ⟨iI, hiI, hzI, hsI, hbI⟩ := info_parts infoSl
  obtain ⟨i0, hi0, hz0, hs0, hb0⟩ := info_parts info3
  clear hs h hv b1 b2 b3 b5 hfar
  go_enter Tryz.func46, Tryz.ntmps46
  go_wp2
  generalize hW : w.setCell ⟨WB, 7, none⟩ (.int .i64 ((nk : Int) + 1)) = W at *
  clear hW b7 f7 x0 x1
  generalize -1000 - ((nk : Int) + 1) = m at *
  go_loopw [5] (fun i wr => ∃ k : Nat, k ≤ n ∧ i = .int .i64 k ∧ Book wr WB vI vM ls ms (nk + 1) ∧ wr.ownsRow (WB + 1) 3 1 (.slice va n vc) n (List.replicate k (.int .i64 m) ++ xs.drop k) ∧ Kept WB w wr) (fun i _ => n - (intOf i).toNat)
  case atStart => exact ⟨0, by omega, rfl, hB1, by simpa using hv1, hK1⟩
  case round =>
    clear hB1 hK1 hv1
    obtain ⟨k, hkn, rfl, hB, hv, hK⟩ := hrel
    by_cases hlt : k < n
    · obtain ⟨g, rfl, hg, c0⟩ := own_place hv k hlt
      have f0 := hv.frozenAt k
      obtain ⟨hB', hK'⟩ := hB.fill hv HS.out k (.int .i64 m)
      have hv' := (hv.stored k (.int .i64 m)).1
      rw [fill_set (by omega)] at hv'
      have HB : Hid (Book (wr.setCell ⟨g, k, none⟩ (.int .i64 m)) WB vI vM ls ms (nk + 1)) := hB'
      have HV : Hid ((wr.setCell ⟨g, k, none⟩ (.int .i64 m)).ownsRow (WB + 1) 3 1 (.slice (some ⟨g, 0, none⟩) n vc) n (List.replicate (k + 1) (.int .i64 m) ++ xs.drop (k + 1))) := hv'
      have HK : Hid (Kept WB w (wr.setCell ⟨g, k, none⟩ (.int .i64 m))) := hK.trans hK'
      have c1 : ∃ u, wr.cell? ⟨g, k, none⟩ = some u := by
        rw [c0]
        have : k < (List.replicate k (Value.int .i64 m) ++ xs.drop k).length := by simp; omega
        exact ⟨_, List.getElem?_eq_getElem this⟩
      obtain ⟨u, c1⟩ := c1
      have y0 : (0 : Int) ≤ (k : Int) := by omega
      have y1 : (k : Int) < (n : Int) := by omega
      have y4 : IntKind.i64.wrap ((k : Int) + 1) = (k : Int) + 1 := wrap_id (by omega) (by omega)
      clear hB hv hK hB' hv' hK' c0
      go_wp2
      go_roundw
      case rel => exact ⟨k + 1, by omega, by go_num, HB.out, HV.out, HK.out⟩
      case measure => simp [intOf]; omega
    · have ek : k = n := by omega
      subst ek
      have hv2 : wr.ownsRow (WB + 1) 3 1 (.slice va k vc) k (List.replicate k (.int .i64 m)) := by
        rw [List.drop_eq_nil_of_le (by omega), List.append_nil] at hv
        exact hv
      clear hv
      go_wp2
      go_loopw [1, 6] (fun vl i wr => ∃ (k' n' : Nat) (vI vM : Value) (ls' : List Value) (ms' : List Int), k' ≤ 4 ∧ i = .int .i64 k' ∧ Book wr WB vI vM ls' ms' (nk + 1) ∧ ls'.length = ms'.length ∧ ls'.length = ls.length + k' ∧ n' ≤ k + k' ∧
        wr.ownsRow (WB + 1) 3 1 vl n' (List.replicate n' (.int .i64 m)) ∧ Shares vM ls' ms' vl n' m ∧ Kept WB w wr) (fun _ i _ => 4 - (intOf i).toNat)
      case atStart => exact ⟨0, k, vI, vM, ls, ms, by omega, rfl, hB, hlen, rfl, by omega, hv2, Shares.any HS.out k m, hK⟩
      case round =>
        clear hB hv2 hK HS
        obtain ⟨q, n', vI', vM', ls', ms', hq, rfl, hB, hlen', hll, hnn, hv, hs, hK⟩ := hrel
        have HLEN : Hid (ls'.length = ms'.length ∧ ls'.length = ls.length + q) := ⟨hlen', hll⟩
        have hb8 : ls'.length + 1 ≤ 3703618117000 := by omega
        have hm8 : ms'.length + 1 ≤ 3703618117000 := by omega
        clear hlen' hll
        by_cases hq4 : q < 4
        · obtain ⟨ia, ic, rfl⟩ := own_anyW hB.ownI
          obtain ⟨ma, mc, rfl⟩ := own_anyW hB.ownM
          obtain ⟨la, lc, rfl⟩ := own_anyW hv
          obtain ⟨_, b1, b2, _⟩ := hB.cells
          have hWB := hB.lt
          have y4 : IntKind.i64.wrap ((q : Int) + 1) = (q : Int) + 1 := wrap_id (by omega) (by omega)
          have y5 : (q : Int) < 4 := by omega
          go_wp2_with (at_builtin; refine wpList_append_where _ (by rfl) (.tmp 38) (.tmp 40) 25 (by rfl) (WB + 1) 26 iI (.slice none 0 0) 1 24 Tryz.underlying25 hiI hzI hsI hbI rfl (by decide) _ _ _ (by rfl) (own_below hB.ownI (below1 _ _)) ⟨wr.heap.size, 0, none⟩ 1 1 [.slice la n' lc] (by rfl) rfl ?c1 ?c2 (by decide) ?c3 ?c4 ?c5 (wr.heap.size + 1) ?c6 ?_)
          case c1 => exact cell_one_new _ _ _
          case c2 => intro u hu; simp at hu; subst hu; rfl
          case c3 => unfold maxLen; omega
          case c4 => omega
          case c5 => simp; omega
          case c6 => simp
          · intro g2 cap2 w3 hown3 hat3 hlt3
            obtain ⟨hB4, hu4, hK4⟩ := hB.putI HLEN.out.1 hown3 hat3
            obtain ⟨d1, d2, f1, f2⟩ := hB.blk3 (v := .slice ia ls'.length ic) (fun g hg => by have := (own_typ hB.ownI hg).1; omega) hat3
            have hv4 := own_keep hv (fun g hg => by
              obtain ⟨hb, cur, hh⟩ := own_typ hv hg
              exact hu4 g cur _ hh (by omega) (by decide))
            have hs4 : Shares (.slice ma ms'.length mc) (ls' ++ [.slice la n' lc]) ms' (.slice la n' lc) n' m := by
              intro g hg
              rw [zip_more ls' ms' _ HLEN.out.1]
              exact hs g hg
            have hK4' := hK.trans hK4
            clear hB hv hs hK hK4 hu4 hown3 hat3 b1 b2
            have hsz : (w3.setCell ⟨WB, 1, none⟩ (.slice (some ⟨g2, 0, none⟩) (ls'.length + 1) cap2)).heap.size = w3.heap.size := by simp
            have hn1 := cell_one_new (w3.setCell ⟨WB, 1, none⟩ (.slice (some ⟨g2, 0, none⟩) (ls'.length + 1) cap2)) (.int .i64 m) 3
            rw [hsz] at hn1
            have hWB3 : WB < w3.heap.size := by have := hB4.lt; omega
            go_wp2_with (at_builtin; refine wpList_append_where _ (by rfl) (.tmp 48) (.tmp 50) 26 (by rfl) (WB + 1) 3 i0 (.int .i64 0) 1 8 Tryz.underlying26 hi0 hz0 hs0 hb0 rfl (by decide) _ _ _ (by rfl) (own_below hB4.ownM (below1 _ _)) ⟨w3.heap.size, 0, none⟩ 1 1 [.int .i64 m] (by rfl) rfl hn1 ?c2 (by decide) ?c3 ?c4 ?c5 (w3.heap.size + 1) ?c6 ?_)
            case c2 => intro u hu; simp at hu; subst hu; rfl
            case c3 => unfold maxLen; omega
            case c4 => omega
            case c5 => simp; omega
            case c6 => simp
            · intro g3 cap3 w5 hown5 hat5 hlt5
              rw [← hsz] at hat5
              have hent := ent_of_own hv4 (fun g hg => (hs4 g hg).1)
              obtain ⟨hB6, hu6, hK6⟩ := hB4.putM HLEN.out.1 hent hown5 hat5
              obtain ⟨d1', d2', f1', f2'⟩ := hB4.blk3 (v := .slice ma ms'.length mc) (fun g hg => by have := (own_typ hB4.ownM hg).1; omega) hat5
              have hfar6 : ∀ g, (Value.slice la n' lc).ownBlock = some g → (w5.setCell ⟨WB, 2, none⟩ (.slice (some ⟨g3, 0, none⟩) (ms'.length + 1) cap3)).heap[g]? = (w3.setCell ⟨WB, 1, none⟩ (.slice (some ⟨g2, 0, none⟩) (ls'.length + 1) cap2)).heap[g]? ∧ some g ≠ some g3 := fun g hg => by
                obtain ⟨hb, cur, hh⟩ := own_typ hv4 hg
                exact hu6 g cur _ hh (by omega) (hs4 g hg).1
              have hv6 := own_keep hv4 (fun g hg => (hfar6 g hg).1)
              have hs6 : Shares (.slice (some ⟨g3, 0, none⟩) (ms'.length + 1) cap3) (ls' ++ [.slice la n' lc]) (ms' ++ [m]) (.slice la n' lc) n' m := by
                intro g hg
                refine ⟨(hfar6 g hg).2, fun e he h1 h2 => ?_⟩
                rw [List.zip_append HLEN.out.1] at he
                rcases List.mem_append.1 he with he | he
                · have := hs4 g hg
                  rw [zip_more ls' ms' _ HLEN.out.1] at this
                  exact this.2 e he h1 h2
                · simp at he
                  subst he
                  exact ⟨rfl, Nat.le_refl _⟩
              have hK6' := hK4'.trans hK6
              clear hB4 hv4 hs4 hK4' hK6 hu6 hown5 hat5 hent hn1 hfar6
              have hsz6 : (w5.setCell ⟨WB, 2, none⟩ (.slice (some ⟨g3, 0, none⟩) (ms'.length + 1) cap3)).heap.size = w5.heap.size := by simp
              have hn6 := cell_one_new (w5.setCell ⟨WB, 2, none⟩ (.slice (some ⟨g3, 0, none⟩) (ms'.length + 1) cap3)) (.int .i64 m) 3
              rw [hsz6] at hn6
              have hWB5 : WB < w5.heap.size := by have := hB6.lt; omega
              go_wp2_with (at_builtin; refine wpList_append_where _ (by rfl) (.tmp 54) (.tmp 56) 26 (by rfl) (WB + 1) 3 i0 (.int .i64 0) 1 8 Tryz.underlying26 hi0 hz0 hs0 hb0 rfl (by decide) _ _ _ (by rfl) (own_below hv6 (below1 _ _)) ⟨w5.heap.size, 0, none⟩ 1 1 [.int .i64 m] (by rfl) rfl hn6 ?c2 (by decide) ?c3 ?c4 ?c5 (w5.heap.size + 1) ?c6 ?_)
              case c2 => intro u hu; simp at hu; subst hu; rfl
              case c3 => unfold maxLen; omega
              case c4 => omega
              case c5 => simp; omega
              case c6 => simp
              · intro g4 cap4 w7 hown7 hat7 hlt7
                rw [← hsz6] at hat7
                obtain ⟨hB8, hs8, hK8⟩ := hB6.putL hv6 hs6 hown7 hat7
                have hK8' := hK6'.trans hK8
                rw [← List.replicate_succ'] at hown7
                clear hB6 hv6 hs6 hK6' hK8 hat7 hn6
                go_wp2
                go_roundw
                case rel => exact ⟨q + 1, n' + 1, _, _, _, _, by omega, by go_num, hB8, by simp [HLEN.out.1], by simp [HLEN.out.2]; omega, by omega, hown7, hs8, hK8'⟩
                case measure => simp [intOf]; omega
        · have : q = 4 := by omega
          subst this
          have HR : Hid (∃ vI' vM' ls' ms', Book wr WB vI' vM' ls' ms' (nk + 1) ∧ ls'.length = ms'.length ∧ ls'.length = ls.length + 4 ∧ Kept WB w wr) := ⟨vI', vM', ls', ms', hB, HLEN.out.1, HLEN.out.2, hK⟩
          clear hB hv hs hK
          go_wp2
          go_end0
          exact ⟨rfl, HR.out⟩

end Go.Proofs.YtgpapegpdfonpaaGreatDoor
