/-
  The statement's part for meshes: World.asks, the kinds that hand over to one call.
  The statement's part for meshes: World.asks, a drop.
  The statement's part for meshes: World.asks, a question for the nearest.
-/
import Derived.Test.YtgpapegpdfonpaaGreatDoorMeshN
set_option linter.unusedVariables false
set_option linter.unusedSimpArgs false
namespace Go.Proofs.YtgpapegpdfonpaaGreatDoor
open Go.RowKit
attribute [local go_sem ↓] Go.wp_at_zero Go.wp_at_succ
theorem APost.pre {MAt : MeshPred} {WB N : Nat} {v0 : Value} {w0 w w' : World} {tag : Nat → Nat} {iK iM : Nat} {d : KD} (h : APost MAt WB N v0 w w' tag iK iM d) (hb : Below w0.heap.size w0 w) : APost MAt WB N v0 w0 w' tag iK iM d := by
 obtain ⟨tag', d', h1, h2, h3, h4, h5, h6⟩ := h
 exact ⟨tag', d', h1, h2, h3, h4, fun k hk => h5 k (Nat.lt_of_lt_of_le hk hb.size), Chg.trans (Chg.of_below hb) h6 fun _ _ h => h⟩
theorem APost.refl {MAt : MeshPred} {WB N : Nat} {v0 : Value} {w : World} {tag : Nat → Nat} {iK iM : Nat} {d : KD} (hB : Bks w WB v0 tag N) (hK : KM MAt w tag iK iM d) : APost MAt WB N v0 w w tag iK iM d :=
 ⟨tag, d, hB.more (by omega), hK, rfl, by omega, fun _ _ => rfl, Chg.refl _ _⟩
theorem KM.below {MAt : MeshPred} (L : MeshLaw MAt) {w w' : World} {tag : Nat → Nat} {iK iM : Nat} {d : KD} (h : KM MAt w tag iK iM d) (hb : Below w.heap.size w w') : KM MAt w' tag iK iM d := by
 obtain ⟨⟨vP, vN, vT, hA⟩, hM⟩ := h
 exact ⟨⟨vP, vN, vT, hA.below hb⟩, L.frame _ _ _ _ _ _ _ hM hb.size fun k hk ht => ⟨hb.block k hk, ht⟩⟩
set_option maxHeartbeats 2000000 in
set_option maxRecDepth 100000 in
theorem asks6 {MAt : MeshPred} (L : MeshLaw MAt) (WB N iK iM : Nat) (v0 : Value) (tag : Nat → Nat) (d : KD) (n wh ax ay bx by' cx cy dx dy : Int) (la : Option Addr) (ln lc : Nat) (ta : Option Addr) (tn tc : Nat) (s : ByteArray) (w : World) (hB : Bks w WB v0 tag N) (hN : N ≤ 925904528800) (hK : KM MAt w tag iK iM d) (hev : d.s.ever ≤ 2000000000000) (h1 : 4 < iK) (h2 : 4 < iM) (h3 : iK ≠ iM) :
  Calls Tryz.prog 23 #[.pointer (some ⟨WB, 0, none⟩), .pointer (some ⟨d.K, 0, none⟩), opVal 6 n wh ax ay bx by' cx cy dx dy la ln lc ta tn tc s] w fun e w' => e = .returned (.bool true) ∧ APost MAt WB N v0 w w' tag iK iM d := by
 have FP := fun o => inserts_any L iK iM tag d ax ay (w.alloc o) (hK.below L (below1 w o)) ((hB.below (below1 w o)).tlt) hev h1 h2 h3
 have HP : ∀ o w', KPost MAt (w.alloc o) w' tag iK iM d → APost MAt WB N v0 w w' tag iK iM d := fun o w' h => (KPost.toA (hB.below (below1 w o)) h1 h2 h).pre (below1 w o)
 clear hB hK
 go_enter Tryz.func23, Tryz.ntmps23
 go_wp2_with (go_at_call 58; refine (FP _).mono ?_; rintro e w1 ⟨rfl, hb1⟩)
 go_ret
 exact ⟨rfl, HP _ _ hb1⟩
set_option maxHeartbeats 2000000 in
set_option maxRecDepth 100000 in
theorem asks7 {MAt : MeshPred} (L : MeshLaw MAt) (WB N iK iM : Nat) (v0 : Value) (tag : Nat → Nat) (d : KD) (n wh ax ay bx by' cx cy dx dy : Int) (la : Option Addr) (ln lc : Nat) (ta : Option Addr) (tn tc : Nat) (s : ByteArray) (w : World) (hB : Bks w WB v0 tag N) (hK : KM MAt w tag iK iM d) (h1 : 4 < iK) (h2 : 4 < iM) (h3 : iK ≠ iM) :
  Calls Tryz.prog 23 #[.pointer (some ⟨WB, 0, none⟩), .pointer (some ⟨d.K, 0, none⟩), opVal 7 n wh ax ay bx by' cx cy dx dy la ln lc ta tn tc s] w fun e w' => e = .returned (.bool true) ∧ APost MAt WB N v0 w w' tag iK iM d := by
 have FP := fun o => removes_any L iK iM tag d n (w.alloc o) (hK.below L (below1 w o)) ((hB.below (below1 w o)).tlt) h1 h2 h3
 have HP : ∀ o w', KPost MAt (w.alloc o) w' tag iK iM d → APost MAt WB N v0 w w' tag iK iM d := fun o w' h => (KPost.toA (hB.below (below1 w o)) h1 h2 h).pre (below1 w o)
 clear hB hK
 go_enter Tryz.func23, Tryz.ntmps23
 go_wp2_with (go_at_call 59; refine (FP _).mono ?_; rintro e w1 ⟨rfl, hb1⟩)
 go_ret
 exact ⟨rfl, HP _ _ hb1⟩
set_option maxHeartbeats 2000000 in
set_option maxRecDepth 100000 in
theorem asks9 {MAt : MeshPred} (L : MeshLaw MAt) (WB N iK iM : Nat) (v0 : Value) (tag : Nat → Nat) (d : KD) (n wh ax ay bx by' cx cy dx dy : Int) (la : Option Addr) (ln lc : Nat) (ta : Option Addr) (tn tc : Nat) (s : ByteArray) (w : World) (hB : Bks w WB v0 tag N) (hN : N ≤ 925904528800) (hK : KM MAt w tag iK iM d) (h1 : 4 < iK) (h2 : 4 < iM) (h3 : iK ≠ iM) :
  Calls Tryz.prog 23 #[.pointer (some ⟨WB, 0, none⟩), .pointer (some ⟨d.K, 0, none⟩), opVal 9 n wh ax ay bx by' cx cy dx dy la ln lc ta tn tc s] w fun e w' => e = .returned (.bool true) ∧ APost MAt WB N v0 w w' tag iK iM d := by
 have FP := fun o => wtri_any L WB N iK iM v0 tag d (w.alloc o) (hB.below (below1 w o)) hN (hK.below L (below1 w o)) h1 h2 h3
 have HP : ∀ o w', TriPost MAt WB N v0 (w.alloc o) w' tag iK iM d → APost MAt WB N v0 w w' tag iK iM d := fun o w' h => h.toA.pre (below1 w o)
 clear hB hK
 go_enter Tryz.func23, Tryz.ntmps23
 go_wp2_with (go_at_call 60; refine (FP _).mono ?_; rintro e w1 ⟨v, rfl, hown, hb1⟩)
 go_ret
 exact ⟨rfl, HP _ _ hb1⟩
set_option maxHeartbeats 2000000 in
set_option maxRecDepth 100000 in
theorem asks10 {MAt : MeshPred} (L : MeshLaw MAt) (WB N iK iM : Nat) (v0 : Value) (tag : Nat → Nat) (d : KD) (n wh ax ay bx by' cx cy dx dy : Int) (la : Option Addr) (ln lc : Nat) (ta : Option Addr) (tn tc : Nat) (s : ByteArray) (w : World) (hB : Bks w WB v0 tag N) (hN : N ≤ 925904528800) (hK : KM MAt w tag iK iM d) (h1 : 4 < iK) (h2 : 4 < iM) (h3 : iK ≠ iM) :
  Calls Tryz.prog 23 #[.pointer (some ⟨WB, 0, none⟩), .pointer (some ⟨d.K, 0, none⟩), opVal 10 n wh ax ay bx by' cx cy dx dy la ln lc ta tn tc s] w fun e w' => e = .returned (.bool true) ∧ APost MAt WB N v0 w w' tag iK iM d := by
 have FP := fun o => locates_any L WB N iK iM v0 tag d ax ay (w.alloc o) (hB.below (below1 w o)) hN (hK.below L (below1 w o)) h1 h2 h3
 have HP : ∀ o w', APost MAt WB N v0 (w.alloc o) w' tag iK iM d → APost MAt WB N v0 w w' tag iK iM d := fun o w' h => h.pre (below1 w o)
 clear hB hK
 go_enter Tryz.func23, Tryz.ntmps23
 go_wp2_with (go_at_call 61; refine (FP _).mono ?_; rintro e w1 ⟨rfl, hb1⟩)
 go_ret
 exact ⟨rfl, HP _ _ hb1⟩
set_option maxHeartbeats 400000 in
theorem pickL_any (c n : Int) (w : World) (h1 : -9223372036854775808 ≤ c) (h2 : c ≤ 9223372036854775807) (hn : 0 < n) (hn2 : n ≤ 9223372036854775807) :
  Calls Tryz.prog 24 #[.int .i64 c, .int .i64 n] w fun e w' => e = .returned (.int .i64 (pk c n)) ∧ w' = w := by
 by_cases hc : c < 0
 ·go_enter Tryz.func24, Tryz.ntmps24
  go_wp2
  go_ret
  exact ⟨ret_int (by simpa using pk_neg c n hc), rfl⟩
 ·go_enter Tryz.func24, Tryz.ntmps24
  go_wp2
  go_ret
  exact ⟨ret_int (by unfold pk; rw [if_neg (by omega)]), rfl⟩
end Go.Proofs.YtgpapegpdfonpaaGreatDoor

namespace Go.Proofs.YtgpapegpdfonpaaGreatDoor
open Go.RowKit
attribute [local go_sem ↓] Go.wp_at_zero Go.wp_at_succ
set_option maxHeartbeats 4000000 in
set_option maxRecDepth 100000 in
theorem asks8 {MAt : MeshPred} (L : MeshLaw MAt) (WB N iK iM : Nat) (v0 : Value) (tag : Nat → Nat) (d : KD) (n wh ax ay bx by' cx cy dx dy : Int) (la : Option Addr) (ln lc : Nat) (ta : Option Addr) (tn tc : Nat) (s : ByteArray) (w : World) (n1 : -9223372036854775808 ≤ n) (n2 : n ≤ 9223372036854775807) (hB : Bks w WB v0 tag N) (hK : KM MAt w tag iK iM d) (h1 : 4 < iK) (h2 : 4 < iM) (h3 : iK ≠ iM) :
  Calls Tryz.prog 23 #[.pointer (some ⟨WB, 0, none⟩), .pointer (some ⟨d.K, 0, none⟩), opVal 8 n wh ax ay bx by' cx cy dx dy la ln lc ta tn tc s] w fun e w' => e = .returned (.bool true) ∧ APost MAt WB N v0 w w' tag iK iM d := by
 have HP : ∀ o w', KPost MAt (w.alloc o).drew w' tag iK iM d → APost MAt WB N v0 w w' tag iK iM d := fun o w' h => (KPost.toA (hB.below (below1 w o).drew) h1 h2 h).pre (below1 w o).drew
 have HP0 : ∀ o, APost MAt WB N v0 w (w.alloc o) tag iK iM d := fun o => (APost.refl (hB.below (below1 w o)) (hK.below L (below1 w o))).pre (below1 w o)
 have FP := fun o n => removes_any L iK iM tag d n (w.alloc o).drew (hK.below L (below1 w o).drew) ((hB.below (below1 w o).drew).tlt) h1 h2 h3
 obtain ⟨⟨vP, vN, vT, hA⟩, hM⟩ := hK
 have OK : Hid d.s.Ok := L.ok _ _ _ _ _ hM
 obtain ⟨na, nc, rfl⟩ := ownS_any hA.ownN
 have c2 := hA.cells.2.2.1
 have hNA : NumsAt w na d.s.nums := NumsAt.of_own hA.ownN
 have hKl := hA.lt
 have hl60 : d.s.nums.length ≤ 60 := by have := OK.out.len; have := OK.out.le; omega
 clear hB hM hA
 by_cases h0 : d.s.nums.length = 0
 ·rw [h0] at c2
  clear FP HP hNA
  go_enter Tryz.func23, Tryz.ntmps23
  go_wp2
  go_ret
  exact ⟨rfl, HP0 _⟩
 ·have hb := pk_bd n d.s.nums.length (by omega)
  obtain ⟨j, hj⟩ := Int.eq_ofNat_of_zero_le hb.1
  obtain ⟨g, rfl, hg⟩ := hNA j (by omega)
  have hgl : g < w.heap.size := World.block_lt_of_cell? w _ hg
  have PK := fun W => pickL_any n d.s.nums.length W n1 n2 (by omega) (by omega)
  rw [hj] at PK
  have y0 : (0 : Int) ≤ (j : Int) := by omega
  have y1 : (j : Int) < (d.s.nums.length : Int) := by omega
  have z0 : ((d.s.nums.length : Int) == 0) = false := beq_eq_false_iff_ne.2 (by omega)
  have z1 : ¬ ((d.s.nums.length : Int) = 0) := by omega
  have z2 : ¬ (d.s.nums.length = 0) := h0
  clear hNA HP0 hb hj
  go_enter Tryz.func23, Tryz.ntmps23
  go_upto_region 9 with fail
  go_region_with (first | (go_at_call 24; refine (PK _).mono ?_; rintro e w3 ⟨rfl, rfl⟩) | (go_at_call 59; refine (FP _ _).mono ?_; rintro e w1 ⟨rfl, hb1⟩))
  all_goals go_wp2_with fail
  all_goals go_ret
  all_goals exact ⟨rfl, HP _ _ hb1⟩
end Go.Proofs.YtgpapegpdfonpaaGreatDoor

namespace Go.Proofs.YtgpapegpdfonpaaGreatDoor
open Go.RowKit
attribute [local go_sem ↓] Go.wp_at_zero Go.wp_at_succ
set_option maxHeartbeats 4000000 in
set_option maxRecDepth 100000 in
theorem asks11 {MAt : MeshPred} (L : MeshLaw MAt) (WB N iK iM : Nat) (v0 : Value) (tag : Nat → Nat) (d : KD) (n wh ax ay bx by' cx cy dx dy : Int) (la : Option Addr) (ln lc : Nat) (ta : Option Addr) (tn tc : Nat) (s : ByteArray) (w : World) (hB : Bks w WB v0 tag N) (hK : KM MAt w tag iK iM d) (h1 : 4 < iK) (h2 : 4 < iM) (h3 : iK ≠ iM) :
  Calls Tryz.prog 23 #[.pointer (some ⟨WB, 0, none⟩), .pointer (some ⟨d.K, 0, none⟩), opVal 11 n wh ax ay bx by' cx cy dx dy la ln lc ta tn tc s] w fun e w' => e = .returned (.bool true) ∧ APost MAt WB N v0 w w' tag iK iM d := by
 obtain ⟨⟨vP, vN, vT, hA⟩, hM⟩ := hK
 have OK : Hid d.s.Ok := L.ok _ _ _ _ _ hM
 obtain ⟨na, nc, rfl⟩ := ownS_any hA.ownN
 obtain ⟨pa, pc, rfl⟩ := ownS_any hA.ownP
 have hlt := hB.tlt
 go_enter Tryz.func23, Tryz.ntmps23
 go_upto_region 15 with fail
 have hbb := below1 w (.cells #[.int .i64 11, .int .i64 n, .int .i64 wh, .int .i64 ax, .int .i64 ay, .int .i64 bx, .int .i64 by', .int .i64 cx, .int .i64 cy, .int .i64 dx, .int .i64 dy, .slice la ln lc, .slice ta tn tc, .string s] 44)
 have x3 : (w.alloc (.cells #[.int .i64 11, .int .i64 n, .int .i64 wh, .int .i64 ax, .int .i64 ay, .int .i64 bx, .int .i64 by', .int .i64 cx, .int .i64 cy, .int .i64 dx, .int .i64 dy, .slice la ln lc, .slice ta tn tc, .string s] 44)).cell? ⟨w.heap.size, 3, none⟩ = some (.int .i64 ax) := by rw [World.cell?_alloc_at _ _ _ _ (by simp)]; rfl
 have x4 : (w.alloc (.cells #[.int .i64 11, .int .i64 n, .int .i64 wh, .int .i64 ax, .int .i64 ay, .int .i64 bx, .int .i64 by', .int .i64 cx, .int .i64 cy, .int .i64 dx, .int .i64 dy, .slice la ln lc, .slice ta tn tc, .string s] 44)).cell? ⟨w.heap.size, 4, none⟩ = some (.int .i64 ay) := by rw [World.cell?_alloc_at _ _ _ _ (by simp)]; rfl
 have hs0' : (w.alloc (.cells #[.int .i64 11, .int .i64 n, .int .i64 wh, .int .i64 ax, .int .i64 ay, .int .i64 bx, .int .i64 by', .int .i64 cx, .int .i64 cy, .int .i64 dx, .int .i64 dy, .slice la ln lc, .slice ta tn tc, .string s] 44)).heap.size = w.heap.size + 1 := by simp
 generalize w.alloc (.cells #[.int .i64 11, .int .i64 n, .int .i64 wh, .int .i64 ax, .int .i64 ay, .int .i64 bx, .int .i64 by', .int .i64 cx, .int .i64 cy, .int .i64 dx, .int .i64 dy, .slice la ln lc, .slice ta tn tc, .string s] 44) = W at *
 have hAW := hA.below hbb
 have hMW : MAt W tag iM d.mp d.s := L.frame _ _ _ _ _ _ _ hM hbb.size fun k hk ht => ⟨hbb.block k hk, ht⟩
 have hltW : Tagged W tag := fun k hk => by have := hlt k hk; omega
 have hBW := hB.below hbb
 have c0 := hAW.cells.1
 have htx : tag w.heap.size = 0 := by
  by_cases e : tag w.heap.size = 0
  ·exact e
  ·have := hlt _ e; omega
 have HT1 := L.nearest W.drew tag iM d.mp d.s ax ay (by omega) (L.frame _ _ _ _ _ _ _ hMW (Nat.le_refl _) fun k hk ht => ⟨rfl, ht⟩) hltW
 have HAW : Hid (KAt W tag iK d (.slice pa d.s.pts.length pc) (.slice na d.s.nums.length nc) vT ∧ Bks W WB v0 tag N ∧ Below w.heap.size w W ∧ Tagged W tag ∧ tag w.heap.size = 0) := ⟨hAW, hBW, hbb, hltW, htx⟩
 have hxW : w.heap.size < W.heap.size := by omega
 have hKW := hAW.lt
 clear hA hM hlt hAW hMW hltW hB hBW htx
 go_cut [9, 10] (fun s9 s10 wx => ∃ m r tag1, s9 = .int .i64 m ∧ s10 = .int .i64 r ∧ NearR d.s (ax, ay) m r ∧ Agree W tag tag1 ∧ Tagged wx tag1 ∧ MAt wx tag1 iM d.mp d.s ∧ Chg (fun k => tag k = iM) W wx)
 case first =>
  as_aux_lemma =>
  go_region_with (go_at_call 62; refine HT1.mono ?_; rintro e w1 ⟨m, r, rfl, hnr, tag1, hag1, hlt1, hM1, hch1, _⟩)
  all_goals go_wp2_with fail
  all_goals go_meet
  all_goals exact ⟨m, r, tag1, rfl, rfl, hnr, hag1, hlt1, hM1, ⟨hch1.os, hch1.tape, hch1.output, hch1.size, hch1.far⟩⟩
 case rest =>
  as_aux_lemma =>
  obtain ⟨m, r, tag1, rfl, rfl, hnr, hag1, hlt1, hM1, hch1⟩ := hcut
  obtain ⟨hAW, hBW, hbb', hltW, htx⟩ := HAW.out
  have hA1 := hAW.keep (w' := wc) (tag' := tag1) fun k hk ht => ⟨hch1.far k hk (by omega), (hag1 k hk).trans ht⟩
  have hB1 : Bks wc WB v0 tag1 N := hBW.move (fun k h0 h4 => ⟨hch1.far k (hltW k h0) (by omega), hag1 k (hltW k h0)⟩) hlt1 hag1
  replace x3 := (hch1.cell (o := 3) hxW (by rw [htx]; omega)).trans x3
  replace x4 := (hch1.cell (o := 4) hxW (by rw [htx]; omega)).trans x4
  have hx1 : w.heap.size < wc.heap.size := Nat.lt_of_lt_of_le hxW hch1.size
  have hK1 : d.K < wc.heap.size := hA1.lt
  have c1 : wc.cell? ⟨d.K, 1, none⟩ = some (.slice pa d.s.pts.length pc) := hA1.cells.2.1
  have c2 : wc.cell? ⟨d.K, 2, none⟩ = some (.slice na d.s.nums.length nc) := hA1.cells.2.2.1
  have HPR : Hid (RawAt wc pa d.s.pts) := RowP.raw' hA1.ownP
  have HNA : Hid (NumsAt wc na d.s.nums) := NumsAt.of_own hA1.ownN
  have HPO : Hid (APost MAt WB N v0 w wc tag iK iM d) :=
   ⟨tag1, d, hB1.more (by omega), ⟨⟨_, _, _, hA1⟩, hM1⟩, rfl, by omega, fun k hk => hag1 k (by omega), Chg.trans (Chg.of_below hbb') (hch1.mono (G := fun k => BkF WB tag k ∨ tag k = iK ∨ tag k = iM) fun k _ h => .inr (.inr h)) fun _ _ h => h⟩
  have HNR : Hid (NearR d.s (ax, ay) m r) := hnr
  clear hag1 hlt1 hM1 hch1 hAW hBW hbb' hbb hltW htx hA1 hB1 hnr HT1 HAW hs0' hKW hxW c0
  generalize wc = W1 at *
  go_upto_region 17 with (go_at_call 63; refine (rfar_any _ _ _).mono ?_; rintro e w2 ⟨rfl, hb2⟩)
  replace x3 := (hb2.cell (p := ⟨w.heap.size, 3, none⟩) hx1).trans x3
  replace x4 := (hb2.cell (p := ⟨w.heap.size, 4, none⟩) hx1).trans x4
  have HC2 : Hid (W1.cell? ⟨d.K, 2, none⟩ = some (.slice na d.s.nums.length nc)) := c2
  have c1' := (hb2.cell (p := ⟨d.K, 1, none⟩) hK1).trans c1
  have HN2 := rnearest pa pc d.s.pts ax ay w2.drew OK.out.le (HPR.out.below hb2.drew)
  have HB2 : Hid (Below W1.heap.size W1 w2) := hb2
  have hx2 : w.heap.size < w2.heap.size := Nat.lt_of_lt_of_le hx1 hb2.size
  have hK2 : d.K < w2.heap.size := Nat.lt_of_lt_of_le hK1 hb2.size
  clear c1 c2 hb2 hx1
  go_cut [12] (fun s12 wx => s12 = .int .i64 (bestW d.s.pts (ax, ay) d.s.pts.length) ∧ Below w2.heap.size w2 wx)
  case first =>
   as_aux_lemma =>
   go_region_with (go_at_call 64; refine HN2.mono ?_; rintro e w3 ⟨rfl, hb3⟩)
   all_goals go_wp2_with fail
   all_goals go_meet
   all_goals exact ⟨rfl, (Below.refl _ _).drew.trans hb3⟩
  case rest =>
   as_aux_lemma =>
   obtain ⟨rfl, hb3⟩ := hcut
   have hb13 := HB2.out.trans (hb3.mono HB2.out.size)
   have HPO3 : Hid (APost MAt WB N v0 w wc tag iK iM d) := HPO.out.below L hb13
   have c2 := (hb13.cell (p := ⟨d.K, 2, none⟩) hK1).trans HC2.out
   have HNA3 : Hid (NumsAt wc na d.s.nums) := HNA.out.below hb13
   clear x3 x4 c1' HN2 hb3 hb13 HB2 hx2 hK2 HPO HPR HC2 HNA hK1
   cases hfar : farB ax ay with
   | true =>
    have hq : m = 0 ∧ r = 1 := by
     rcases HNR.out with ⟨_, q⟩ | ⟨q, _⟩ | ⟨q, _⟩
     ·exact q
     ·rw [show farB (ax, ay).1 (ax, ay).2 = farB ax ay from rfl, hfar] at q; cases q
     ·rw [show farB (ax, ay).1 (ax, ay).2 = farB ax ay from rfl, hfar] at q; cases q
    obtain ⟨rfl, rfl⟩ := hq
    clear hfar HNR HNA3
    generalize bestW d.s.pts (ax, ay) d.s.pts.length = bw at *
    go_wp2_with (go_at_call 39; refine (num_any _ _).mono ?_; rintro e w7 ⟨rfl, rfl⟩)
    go_ret
    exact ⟨rfl, HPO3.out⟩
   | false =>
    have hq : (d.s.pts = [] ∧ m = 0 ∧ r = 4) ∨ (d.s.pts ≠ [] ∧ r = 0 ∧ m = numO d.s.nums (bestW d.s.pts (ax, ay) d.s.pts.length)) := by
     rcases HNR.out with ⟨q, _⟩ | ⟨_, q⟩ | ⟨_, q⟩
     ·rw [show farB (ax, ay).1 (ax, ay).2 = farB ax ay from rfl, hfar] at q; cases q
     ·exact .inl q
     ·exact .inr q
    clear hfar HNR
    rcases hq with ⟨h0, rfl, rfl⟩ | ⟨h0, rfl, rfl⟩
    ·have hbw : bestW d.s.pts (ax, ay) d.s.pts.length = -1 := by rw [h0]; rfl
     rw [hbw]
     clear hbw h0 HNA3
     go_wp2_with (go_at_call 39; refine (num_any _ _).mono ?_; rintro e w7 ⟨rfl, rfl⟩)
     go_ret
     exact ⟨rfl, HPO3.out⟩
    ·have hbd := bestW_bd d.s.pts (ax, ay) d.s.pts.length (List.length_pos_iff.2 h0)
     obtain ⟨j, hj⟩ := Int.eq_ofNat_of_zero_le hbd.1
     have hjl : j < d.s.nums.length := by have := OK.out.len; omega
     obtain ⟨g, rfl, hg⟩ := HNA3.out j hjl
     rw [hj, numO_pos]
     have y0 : (0 : Int) ≤ (j : Int) := by omega
     have y1 : (j : Int) < (d.s.nums.length : Int) := by omega
     have y2 : ¬ ((j : Int) < 0) := by omega
     clear hj hbd h0 HNA3
     generalize d.s.nums.getD j 0 = vv at *
     go_wp2_with fail
     go_ret
     exact ⟨rfl, HPO3.out⟩
end Go.Proofs.YtgpapegpdfonpaaGreatDoor
