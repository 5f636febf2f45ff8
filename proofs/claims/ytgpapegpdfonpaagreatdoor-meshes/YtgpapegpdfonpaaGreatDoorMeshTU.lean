/-
  The statement's part for meshes: one mesh more.
  The statement's part for meshes: World.step, one mesh more.
-/
import Derived.Test.YtgpapegpdfonpaaGreatDoorMeshRS
set_option linter.unusedVariables false
set_option linter.unusedSimpArgs false
namespace Go.Proofs.YtgpapegpdfonpaaGreatDoor
open Go.RowKit
attribute [local go_sem ↓] Go.wp_at_zero Go.wp_at_succ
theorem Bks.put0 {w : World} {WB N : Nat} {v0 : Value} {tag : Nat → Nat} (h : Bks w WB v0 tag N) (v : Value) : Bks (w.setCell ⟨WB, 0, none⟩ v) WB v tag N := by
 obtain ⟨sh, nk, hb, h2, h3⟩ := h
 refine ⟨sh, nk, ⟨?_, hb.tW, fun k hk => by simpa using hb.lt k hk, hb.low, fun j hj => (hb.she j hj).keep fun k hk ht => ⟨?_, ht⟩⟩, h2, h3⟩
 ·rw [heap_setCell_same w WB 0 _ _ v hb.blk]
  rfl
 ·refine Below.heap_setCell _ _ _ _ fun e => ?_
  have e : k = WB := e
  rw [e, hb.tW] at ht
  omega
theorem MW.below {MAt : MeshPred} (L : MeshLaw MAt) {w w' : World} {WB N : Nat} {tag : Nat → Nat} {v0 : Value} {ds : List KD} (h : MW MAt w WB N tag v0 ds) (hb : Below w.heap.size w w') : MW MAt w' WB N tag v0 ds :=
 ⟨h.bk.below hb, ownS_keep h.row fun g hg => hb.block g (ownS_lt h.row hg), h.tr, fun j hj => (h.km j hj).below L hb, h.ev, h.len⟩
def kNew (m : Nat) : Array Value := #[.pointer (some ⟨m, 0, none⟩), .slice none 0 0, .slice none 0 0, .int .i64 0, .bool false, .slice none 0 0]
theorem MW.new {MAt : MeshPred} (L : MeshLaw MAt) {W w1 w3 : World} {WB N m g cap : Nat} {tag : Nat → Nat} {v0 : Value} {ds : List KD} {o : Obj} (h : MW MAt W WB N tag v0 ds) (hp : MPost MAt W w1 tag (11 + 2 * ds.length) m ⟨[], [], 0, []⟩ (.slice none 0 0)) (hb : Below W.heap.size W w1)
  (hown : w3.ownsRow 0 65 1 (.slice (some ⟨g, 0, none⟩) (ds.length + 1) cap) (ds.length + 1) (ds.map ptrK ++ [.pointer (some ⟨w1.heap.size, 0, none⟩)]))
  (hat : (v0.ownBlock = some g ∧ ((w1.alloc (.cells (kNew m) 67)).alloc o).grownBy w3 (some g)) ∨ (g = (w1.alloc (.cells (kNew m) 67)).heap.size + 1 ∧ ((w1.alloc (.cells (kNew m) 67)).alloc o).grownBy w3 none)) (hg : g < w3.heap.size) :
  ∃ tag' ds', MW MAt (w3.setCell ⟨WB, 0, none⟩ (.slice (some ⟨g, 0, none⟩) (ds.length + 1) cap)) WB (N + 1) tag' (.slice (some ⟨g, 0, none⟩) (ds.length + 1) cap) ds' := by
 obtain ⟨tag1, hag, hlt1, hM1, hch, _⟩ := hp
 obtain ⟨_, _, _, hsz, far⟩ := grown_at hat
 have hs2 : (w1.alloc (.cells (kNew m) 67)).heap.size = w1.heap.size + 1 := by simp
 have hW := h.bk.tW
 have hWB := h.bk.lt
 have hWs := hb.size
 have hgc : (v0.ownBlock = some g ∧ tag g = 5 ∧ g < W.heap.size) ∨ (0 < g ∧ w1.heap.size + 1 < g) ∨ (w1.heap.size + 1 < g) := by
  rcases hat with ⟨e, _⟩ | ⟨e, _⟩
  ·exact .inl ⟨e, h.tr g e, ownS_lt h.row e⟩
  ·right; right; omega
 have hgW : g ≠ WB := fun e => by
  rcases hgc with ⟨_, t, _⟩ | ⟨_, t⟩ | t
  ·rw [e, hW] at t; omega
  ·omega
  ·omega
 have hgK : g ≠ w1.heap.size := fun e => by
  rcases hgc with ⟨_, _, t⟩ | ⟨_, t⟩ | t <;> omega
 have own5 : ∀ k, some k = v0.ownBlock → tag k = 5 ∧ k < W.heap.size := fun k e => ⟨h.tr k e.symm, ownS_lt h.row e.symm⟩
 have old1 : ∀ k, k < w1.heap.size → some k ≠ v0.ownBlock → w3.heap[k]? = w1.heap[k]? := fun k hk hne => by
  rw [far k (by omega) hne, Below.heap_alloc _ _ _ hk]
 have old : ∀ k, k < W.heap.size → tag k ≠ 5 → w3.heap[k]? = W.heap[k]? := fun k hk ht => by
  rw [old1 k (by omega) fun e => ht (own5 k e).1, hb.block k hk]
 let tag' : Nat → Nat := fun k => if k = w1.heap.size then 10 + 2 * ds.length else if k = g then 5 else tag1 k
 have tK : tag' w1.heap.size = 10 + 2 * ds.length := if_pos rfl
 have tg : tag' g = 5 := by show (if g = w1.heap.size then _ else _) = 5; rw [if_neg hgK, if_pos rfl]
 have to1 : ∀ k, k ≠ w1.heap.size → k ≠ g → tag' k = tag1 k := fun k e1 e2 => by show (if k = w1.heap.size then _ else _) = _; rw [if_neg e1, if_neg e2]
 have toA : ∀ k, k < W.heap.size → tag' k = tag k := fun k hk => by
  by_cases e : k = g
  ·subst e
   rw [tg]
   rcases hgc with ⟨_, t, _⟩ | ⟨_, t⟩ | t
   ·exact t.symm
   ·omega
   ·omega
  ·rw [to1 k (by omega) e, hag k hk]
 have htg : Tagged w3 tag' := fun k hk => by
  by_cases e1 : k = w1.heap.size
  ·omega
  ·by_cases e2 : k = g
   ·omega
   ·rw [to1 k e1 e2] at hk
    have := hlt1 k hk
    omega
 have hB3 : Bks w3 WB v0 tag' N := h.bk.move (fun k h0 h4 => ⟨old k (h.bk.tlt k h0) (by omega), toA k (h.bk.tlt k h0)⟩) htg toA
 have far0 : ∀ k, k ≠ WB → (w3.setCell ⟨WB, 0, none⟩ (.slice (some ⟨g, 0, none⟩) (ds.length + 1) cap)).heap[k]? = w3.heap[k]? := fun k hk => Below.heap_setCell _ _ _ _ hk
 have hKW : w1.heap.size ≠ WB := by omega
 have hblk : w3.heap[w1.heap.size]? = some (.cells (kNew m) 67 (0, 0)) := by
  rw [far _ (by omega) fun e => by have := (own5 _ e).2; omega]
  exact heap_alloc_new _ _
 have gd : ∀ j, j < ds.length → (ds ++ [(⟨w1.heap.size, m, ⟨[], [], 0, []⟩, false, []⟩ : KD)]).getD j kd0 = ds.getD j kd0 := fun j hj => by
  simp [List.getD_eq_getElem?_getD, List.getElem?_append_left hj]
 have gl : (ds ++ [(⟨w1.heap.size, m, ⟨[], [], 0, []⟩, false, []⟩ : KD)]).getD ds.length kd0 = (⟨w1.heap.size, m, ⟨[], [], 0, []⟩, false, []⟩ : KD) := by
  simp [List.getD_eq_getElem?_getD]
 refine ⟨tag', ds ++ [⟨w1.heap.size, m, ⟨[], [], 0, []⟩, false, []⟩], (hB3.put0 _).more (by omega), ?_, fun g' hg' => ?_, fun j hj => ?_, fun j hj => ?_, ?_⟩
 ·rw [List.length_append, List.length_singleton, List.map_append]
  exact ownS_keep hown fun g' hg' => by cases hg'; exact far0 _ hgW
 ·cases hg'; exact tg
 ·rw [List.length_append, List.length_singleton] at hj
  by_cases e : j = ds.length
  ·subst e
   rw [gl]
   refine ⟨⟨.slice none 0 0, .slice none 0 0, .slice none 0 0, ⟨?_, tK, World.ownsRow_nil _ _ _ _, World.ownsRow_nil _ _ _ _, World.ownsRow_nil _ _ _ _, (fun g e => by cases e), (fun g e => by cases e), (fun g e => by cases e), (fun e => by cases e)⟩⟩, L.frame _ _ _ _ _ _ _ hM1 (by simp; omega) fun k hk ht => ?_⟩
   ·show _ = _
    rw [far0 _ hKW]
    exact hblk
   ·have k5 : some k ≠ v0.ownBlock := fun e => by
     have q := own5 k e
     rw [hag k q.2, q.1] at ht; omega
    have kg : k ≠ g := fun e => by
     subst e
     rcases hgc with ⟨q, _⟩ | ⟨_, q⟩ | q
     ·exact k5 q.symm
     ·omega
     ·omega
    have kW : k ≠ WB := fun e => by
     subst e
     rw [hag _ hWB, hW] at ht; omega
    exact ⟨by rw [far0 k kW]; exact old1 k hk k5, by rw [to1 k (by omega) kg]; exact ht⟩
  ·have hj : j < ds.length := by omega
   rw [gd j hj]
   refine (h.km j hj).keep L (by simp; omega) fun k hk ht => ⟨?_, toA k hk⟩
   rw [far0 k fun e => by subst e; omega]
   exact old k hk (by omega)
 ·rw [List.length_append, List.length_singleton] at hj
  by_cases e : j = ds.length
  ·subst e
   rw [gl]
   exact Nat.zero_le _
  ·rw [gd j (by omega)]
   have := h.ev j (by omega)
   omega
 ·rw [List.length_append, List.length_singleton]
  have := h.len
  omega
end Go.Proofs.YtgpapegpdfonpaaGreatDoor

namespace Go.Proofs.YtgpapegpdfonpaaGreatDoor
open Go.RowKit
attribute [local go_sem ↓] Go.wp_at_zero Go.wp_at_succ
theorem infoK : (Tryz.prog.info? 65).map (fun i => (i.zero, i.size, i.bytes)) = some (some (.pointer none), 1, 8) := by kernel_rfl
set_option maxHeartbeats 4000000 in
set_option maxRecDepth 100000 in
theorem wstep_mesh {MAt : MeshPred} (L : MeshLaw MAt) (WB N : Nat) (v0 : Value) (tag : Nat → Nat) (ds : List KD) (n wh ax ay bx by' cx cy dx dy : Int) (la : Option Addr) (ln lc : Nat) (ta : Option Addr) (tn tc : Nat) (s : ByteArray) (w : World) (h : MW MAt w WB N tag v0 ds) (hN : N ≤ 925904528800) :
  Calls Tryz.prog 10 #[.pointer (some ⟨WB, 0, none⟩), opVal 5 n wh ax ay bx by' cx cy dx dy la ln lc ta tn tc s] w fun e w' => e = .returned (.bool true) ∧ SPost MAt WB N w w' := by
 obtain ⟨a0, c0', rfl⟩ := ownS_any h.row
 obtain ⟨iK, hiK, hzK, hsK, hbK⟩ := info_parts infoK
 have FP := fun o => L.new (w.alloc o) tag (11 + 2 * ds.length) (by omega) ((h.below L (below1 w o)).bk.tlt)
 have HM : ∀ o, Hid (MW MAt (w.alloc o) WB N tag (.slice a0 ds.length c0') ds) := fun o => h.below L (below1 w o)
 have hlen := h.len
 have HBW : ∀ o, Hid (Below WB w (w.alloc o)) := fun o => (below1 w o).mono (Nat.le_of_lt h.bk.lt)
 clear h
 go_enter Tryz.func10, Tryz.ntmps10
 go_upto_region 7 with (go_at_call 21; refine (FP _).mono ?_; rintro e w1 ⟨m, rfl, hp, hb⟩)
 have HLW := HBW (.cells #[.int .i64 5, .int .i64 n, .int .i64 wh, .int .i64 ax, .int .i64 ay, .int .i64 bx, .int .i64 by', .int .i64 cx, .int .i64 cy, .int .i64 dx, .int .i64 dy, .slice la ln lc, .slice ta tn tc, .string s] 44)
 have HMW := HM (.cells #[.int .i64 5, .int .i64 n, .int .i64 wh, .int .i64 ax, .int .i64 ay, .int .i64 bx, .int .i64 by', .int .i64 cx, .int .i64 cy, .int .i64 dx, .int .i64 dy, .slice la ln lc, .slice ta tn tc, .string s] 44)
 generalize w.alloc (.cells #[.int .i64 5, .int .i64 n, .int .i64 wh, .int .i64 ax, .int .i64 ay, .int .i64 bx, .int .i64 by', .int .i64 cx, .int .i64 cy, .int .i64 dx, .int .i64 dy, .slice la ln lc, .slice ta tn tc, .string s] 44) = W at *
 have hM1 := HMW.out.below L hb
 have hWB := hM1.bk.lt
 have c0 := hM1.bk.cell0
 have hbW := HMW.out.bk.lt
 have HP : Hid (MPost MAt W w1 tag (11 + 2 * ds.length) m ⟨[], [], 0, []⟩ (.slice none 0 0)) := hp
 have HB : Hid (Below W.heap.size W w1) := hb
 have hrow : (w1.alloc (.cells (kNew m) 67)).ownsRow 0 65 1 (.slice a0 ds.length c0') ds.length (ds.map ptrK) := (hM1.below L (below1 _ _)).row
 have HO : Hid ((w1.alloc (.cells (kNew m) 67)).ownsRow 0 65 1 (.slice a0 ds.length c0') ds.length (ds.map ptrK)) := hrow
 clear FP HM HBW hM1 hp hb hrow
 go_wp2_with (at_builtin; refine wpList_append_where _ (by rfl) (.tmp 34) (.tmp 38) 24 (by rfl) 0 65 iK (.pointer none) 1 8 Tryz.underlying24 hiK hzK hsK hbK rfl (by decide) _ _ _ (by rfl) (own_below HO.out (below1 _ _)) ⟨w1.heap.size + 1, 0, none⟩ 1 1 [.pointer (some ⟨w1.heap.size, 0, none⟩)] (by rfl) rfl ?c1 ?c2 (by decide) ?c3 ?c4 ?c5 (w1.heap.size + 2) ?c6 ?_)
 case c1 =>
  have := cell_one_new (w1.alloc (.cells (kNew m) 67)) (.pointer (some ⟨w1.heap.size, 0, none⟩)) 65
  rw [show (w1.alloc (.cells (kNew m) 67)).heap.size = w1.heap.size + 1 by simp] at this
  exact this
 case c2 => intro u hu; simp at hu; subst hu; rfl
 case c3 => unfold maxLen; omega
 case c4 => omega
 case c5 => exact Nat.zero_le _
 case c6 => simp
 ·intro g cap w3 hown hat hlt
  have hat' : ((Value.slice a0 ds.length c0').ownBlock = some g ∧ ((w1.alloc (.cells (kNew m) 67)).alloc (.cells #[.pointer (some ⟨w1.heap.size, 0, none⟩)] 65)).grownBy w3 (some g)) ∨ (g = (w1.alloc (.cells (kNew m) 67)).heap.size + 1 ∧ ((w1.alloc (.cells (kNew m) 67)).alloc (.cells #[.pointer (some ⟨w1.heap.size, 0, none⟩)] 65)).grownBy w3 none) := by
   rw [show (w1.alloc (.cells (kNew m) 67)).heap.size = w1.heap.size + 1 by simp]
   exact hat
  have HNEW : Hid (∃ tag' ds', MW MAt (w3.setCell ⟨WB, 0, none⟩ (.slice (some ⟨g, 0, none⟩) (ds.length + 1) cap)) WB (N + 1) tag' (.slice (some ⟨g, 0, none⟩) (ds.length + 1) cap) ds') := MW.new L HMW.out HP.out HB.out hown hat' hlt
  have hf : w3.frozen? ⟨WB, 0, none⟩ = false := by
   obtain ⟨sh, nk, hbk, _⟩ := ((HMW.out.below L HB.out).below L (below1 w1 (.cells (kNew m) 67))).bk
   exact (hbk.behind (fun g hg => by rw [HMW.out.tr g hg]; decide) hat' 0).2
  have hc : w3.cell? ⟨WB, 0, none⟩ = some (.slice a0 ds.length c0') := by
   obtain ⟨sh, nk, hbk, _⟩ := ((HMW.out.below L HB.out).below L (below1 w1 (.cells (kNew m) 67))).bk
   rw [(hbk.behind (fun g hg => by rw [HMW.out.tr g hg]; decide) hat' 0).1]
   exact hbk.cells.1
  have HLF : Hid (Below WB w (w3.setCell ⟨WB, 0, none⟩ (.slice (some ⟨g, 0, none⟩) (ds.length + 1) cap))) := by
   obtain ⟨o1, o2, o3, hsz, far⟩ := grown_at hat'
   have hlow : ∀ k, k < WB → tag k = 0 := by
    obtain ⟨sh, nk, hb, _⟩ := HMW.out.bk
    exact hb.low
   have hs2 : (w1.alloc (.cells (kNew m) 67)).heap.size = w1.heap.size + 1 := by simp
   have hb13 : Below WB (w1.alloc (.cells (kNew m) 67)) w3 := ⟨o1, o2, o3, hsz, fun k hk => far k (by omega) fun e => by
     have := HMW.out.tr k e.symm
     rw [hlow k hk] at this
     omega⟩
   exact (((HLW.out.trans (HB.out.mono (Nat.le_of_lt hbW))).trans ((below1 _ _).mono (Nat.le_of_lt hWB))).trans hb13).setCell (Nat.le_refl _) _
  clear hown hat hat' hlt HLW HO HP HB HMW c0 hzK hsK hbK hiK
  go_wp2_with fail
  go_ret
  obtain ⟨tag', ds', q⟩ := HNEW.out
  exact ⟨rfl, HLF.out, _, tag', ds', q⟩
end Go.Proofs.YtgpapegpdfonpaaGreatDoor
